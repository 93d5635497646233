import Derived.Test.YthpohjafnljfhaaPk6
import Derived.Test.YthpohjafnljfhaaPk5
import Derived.Test.YthpohjafnljfhaaPk37
import Derived.Maps.AppendAt
import Derived.OwnWalkIn
namespace Go.Proofs.Ythpohjafnljfhaa
open Go.RowKit Go.Shelf
attribute [local go_sem] Oper.semAt_some

/-! ## Lists of one's own that a round makes longer -/
theorem wpListIn_append_at {F : Fence} {n : Nat} {P : Program} (w : World) {ops : Array Oper} {rest : List Oper} {o : Oper} {a : Act} {Q : Exit → Act → World → Prop}
    (hg : o.guard = none) (s x : Operand) (t : TypeId) (hop : o.op = Op.call { callee := Callee.builtin Builtin.append, args := #[s, x], argTypes := #[t, t] })
    (base : Nat) (e : TypeId) (i : TypeInfo) (z : Value) (size bytes : Nat) (h1 : P.underlying t = some (.slice e)) (h2 : P.info? e = some i) (h3 : i.zero = some z) (h4 : i.size = size) (h5 : i.bytes = bytes) (h6 : z.cells.size = size) (h7 : 0 < size)
    (v : Value) (k : Nat) (xs : List Value) (hs : a.eval s = v) (hown : w.ownsRow base e size v k xs) (ad : Addr) (m c : Nat) (news : List Value) (hx : a.eval x = .slice (some ad) m c) (hn : news.length = m * size)
    (hc : ∀ j u, news[j]? = some u → w.cell? (ad.add j) = some u) (h1c : ∀ u ∈ news, u.oneCell' = true) (b1 : k + m ≤ maxLen) (b2 : (k + m) * bytes ≤ 140737488355328) (b3 : base ≤ w.heap.size)
    (hK : ∀ v' w', w'.ownsRow base e size v' (k + m) (xs ++ news) → w.grownBy w' v.ownBlock → (v'.ownBlock = v.ownBlock ∨ v'.ownBlock = some w.heap.size) → wpListIn F n P ops Q rest (a.put o.dst v') w') :
    wpListIn F n P ops Q (o :: rest) a w := by
  refine wpListIn_plain hg fun K hK' => ?_
  obtain ⟨v', w', hrun, r1, r2, _, r3⟩ := run_append_own_at (P := P) w base t o.type e i z size bytes h1 h2 h3 h4 h5 h6 h7 v k xs hown ad m c news hn hc h1c b1 b2 b3
  unfold Oper.wpIn
  refine ⟨?_, ?_⟩
  · simp [Oper.about, hop, resolve, Target.leads, Sem.run_pure]
  · rw [Oper.semAt_plain F _ _ (by rw [hop]; intro c hc'; cases hc')]
    simp [execOp, hop, resolve, invoke, builtin, hs, hx, hrun, Result.andThen]
    exact hK' _ _ (hK v' w' r1 r2 r3)
theorem addr0 (k j : Nat) : (⟨k, 0, none⟩ : Addr).add j = ⟨k, j, none⟩ := by unfold Addr.add; split <;> simp_all
theorem addrO (k o j : Nat) : (⟨k, o, none⟩ : Addr).add j = ⟨k, o + j, none⟩ := by unfold Addr.add; split <;> simp_all
theorem strsIn_append {F : Fence} {n : Nat} {w : World} {ops : Array Oper} {rest : List Oper} {o : Oper} {a : Act} {Q : Exit → Act → World → Prop} {n0 : Nat} {v : Value} {l : List (List UInt8)} (hgd : o.guard = none) (s x : Operand) (ho : o.op = .call { callee := .builtin .append, args := #[s, x], argTypes := #[40, 40] }) (hsv : a.eval s = v) (hv : Strs w n0 v l)
    (k : Nat) (t : List UInt8) (hxv : a.eval x = .slice (some ⟨k, 0, none⟩) 1 1) (hx : Has w k 9 #[.string ⟨t.toArray⟩]) (hs : l.length + 1 ≤ 2000000) (hn : n0 ≤ w.heap.size)
    (h : ∀ v' w', Strs w' n0 v' (l ++ [t]) → w.grownBy w' v.ownBlock → (v'.ownBlock = v.ownBlock ∨ v'.ownBlock = some w.heap.size) → wpListIn F n Try.prog ops Q rest (a.put o.dst v') w') : wpListIn F n Try.prog ops Q (o :: rest) a w := by
  obtain ⟨i, hi, hz, hz1, hz2⟩ := info_str
  refine wpListIn_append_at w hgd s x 40 ho n0 9 i (.string ⟨#[]⟩) 1 16 Try.underlying40 hi hz hz1 hz2 rfl (by decide) v l.length (strsC l) hsv hv ⟨k, 0, none⟩ 1 1 [.string ⟨t.toArray⟩] hxv rfl (fun j u hu => ?_) (by intro u hu; rw [List.mem_singleton.1 hu]; rfl) (by simp only [maxLen]; omega) (by omega) hn (fun v' w' h1 h2 h3 => h v' w' ?_ h2 h3)
  · rw [addr0, hx.cell]
    simpa using hu
  · unfold Strs
    rw [List.length_append, List.length_singleton, show strsC (l ++ [t]) = strsC l ++ [.string ⟨t.toArray⟩] by simp [strsC]]
    exact h1
theorem strs_kept {W W' : World} {n0 : Nat} {v : Value} {l : List (List UInt8)} (h : Strs W n0 v l) (k : ∀ g, v.ownBlock = some g → W'.heap[g]? = W.heap[g]?) : Strs W' n0 v l := by
  refine ⟨h.1, ?_⟩
  rcases h.2 with h | ⟨g, cap, cur, rfl, hb, hg, r⟩
  · exact .inl h
  · exact .inr ⟨g, cap, cur, rfl, hb, (k g rfl).trans hg, r⟩
/-- A list whose texts lie in memory below a block. -/
theorem strs_txB {W : World} {n0 B : Nat} {v : Value} {l : List (List UInt8)} (h : Strs W n0 v l) (hB : W.heap.size ≤ B) (h0 : 0 < l.length) : ∃ g c, v = .slice (some ⟨g, 0, none⟩) l.length c ∧ l.length ≤ c ∧ c ≤ maxLen ∧ g < B ∧ g < W.heap.size ∧ ∀ (i : Nat) (x : List UInt8), l[i]? = some x → W.cell? ⟨g, i, none⟩ = some (.string ⟨x.toArray⟩) := by
  have hh := h
  rcases h.2 with ⟨rfl, h1⟩ | ⟨g, cap, cur, rfl, hb, hg, hnc, hcm, _⟩
  · omega
  · have hlt : g < W.heap.size := (Array.getElem?_eq_some_iff.1 hg).1
    refine ⟨g, cap, rfl, hnc, hcm, by omega, hlt, fun i x hx => ?_⟩
    have c := World.ownsRow.cells (g := g) hh rfl i (.string ⟨x.toArray⟩) (by unfold strsC; rw [List.getElem?_map, hx]; rfl)
    rwa [addr0] at c
/-! ### Ranges -/
def rgsC (l : List Ac.Rg) : List Value := l.flatMap rgC
theorem rgsC_append (l m : List Ac.Rg) : rgsC (l ++ m) = rgsC l ++ rgsC m := by simp [rgsC]
theorem rgsC_one (l : List Ac.Rg) : ∀ u ∈ rgsC l, u.oneCell' = true := by
  intro u hu
  obtain ⟨x, _, hu⟩ := List.mem_flatMap.1 hu
  simp only [rgC, List.mem_cons, List.not_mem_nil, or_false] at hu
  rcases hu with rfl | rfl | rfl | rfl <;> rfl
theorem rgsC_get : ∀ (l : List Ac.Rg) (i : Nat) (r : Ac.Rg), l[i]? = some r → (rgsC l)[i * 4]? = some (.string ⟨r.ty.toArray⟩) ∧ (rgsC l)[i * 4 + 1]? = some (.string ⟨r.sub.toArray⟩) ∧ (rgsC l)[i * 4 + 2]? = some (.int .i64 (r.params : Int)) ∧ (rgsC l)[i * 4 + 3]? = some (.int .i64 (r.quality : Int))
  | [], i, x, h => by simp at h
  | y :: l, 0, x, h => by
    obtain rfl : y = x := by simpa using h
    exact ⟨rfl, rfl, rfl, rfl⟩
  | y :: l, i + 1, x, h => by
    have := rgsC_get l i x (by simpa using h)
    have e : ∀ n, (rgsC (y :: l))[n + 1 + 1 + 1 + 1]? = (rgsC l)[n]? := fun n => rfl
    rw [show (i + 1) * 4 = i * 4 + 1 + 1 + 1 + 1 by omega, show i * 4 + 1 + 1 + 1 + 1 + 1 = (i * 4 + 1) + 1 + 1 + 1 + 1 by omega, show i * 4 + 1 + 1 + 1 + 1 + 2 = (i * 4 + 2) + 1 + 1 + 1 + 1 by omega, show i * 4 + 1 + 1 + 1 + 1 + 3 = (i * 4 + 3) + 1 + 1 + 1 + 1 by omega, e, e, e, e]
    exact this
def RgO (W : World) (n0 : Nat) (v : Value) (l : List Ac.Rg) : Prop := W.ownsRow n0 33 4 v l.length (rgsC l)
theorem rgO_nil (W : World) (n0 : Nat) : RgO W n0 (.slice none 0 0) [] := ⟨rfl, .inl ⟨rfl, rfl⟩⟩
theorem RgO.rgs {W : World} {n0 : Nat} {v : Value} {l : List Ac.Rg} (h : RgO W n0 v l) : ∃ A c, v = .slice A l.length c ∧ Rgs W A l := by
  have hh := h
  rcases h.2 with ⟨rfl, h0⟩ | ⟨g, cap, cur, rfl, hb, hg, _⟩
  · exact ⟨none, 0, by rw [h0], fun hl => by omega⟩
  · refine ⟨_, cap, rfl, fun _ => ⟨g, 0, rfl, (Array.getElem?_eq_some_iff.1 hg).1, fun i x hx => ?_⟩⟩
    have c := fun j u hu => World.ownsRow.cells (g := g) hh rfl j u hu
    simp only [addr0] at c
    obtain ⟨h1, h2, h3, h4⟩ := rgsC_get l i x hx
    simp only [Nat.zero_add]
    exact ⟨c _ _ h1, c _ _ h2, c _ _ h3, c _ _ h4⟩
theorem RgO.own {W : World} {n0 : Nat} {v : Value} {l : List Ac.Rg} (h : RgO W n0 v l) : ∀ g, v.ownBlock = some g → n0 ≤ g ∧ ∃ cs, Has W g 33 cs := by
  intro g hg
  rcases h.2 with ⟨rfl, _⟩ | ⟨g', cap, cur, rfl, hb, hh, r⟩
  · cases hg
  · obtain rfl : g' = g := by simpa [Value.ownBlock] using hg
    exact ⟨hb, cur, hh⟩
theorem RgO.kept {W W' : World} {n0 : Nat} {v : Value} {l : List Ac.Rg} (h : RgO W n0 v l) (k : ∀ g, v.ownBlock = some g → W'.heap[g]? = W.heap[g]?) : RgO W' n0 v l := by
  refine ⟨h.1, ?_⟩
  rcases h.2 with h | ⟨g, cap, cur, rfl, hb, hg, r⟩
  · exact .inl h
  · exact .inr ⟨g, cap, cur, rfl, hb, (k g rfl).trans hg, r⟩
theorem RgO.below {W W' : World} {n0 : Nat} {v : Value} {l : List Ac.Rg} (h : RgO W n0 v l) (hb : Below W.heap.size W W') : RgO W' n0 v l := h.kept fun g hg => hb.block g (h.own g hg).2.choose_spec.lt
theorem infoRange : (Try.prog.info? 33).map (fun i => (i.zero, i.size, i.bytes)) = some (some (.agg #[.string ⟨#[]⟩, .string ⟨#[]⟩, .int .i64 0, .int .i64 0]), 4, 48) := by kernel_rfl
theorem info_range : ∃ i, Try.prog.info? 33 = some i ∧ i.zero = some (.agg #[.string ⟨#[]⟩, .string ⟨#[]⟩, .int .i64 0, .int .i64 0]) ∧ i.size = 4 ∧ i.bytes = 48 := by
  have h := infoRange
  cases hi : Try.prog.info? 33 with
  | none => rw [hi] at h; cases h
  | some i =>
    rw [hi] at h
    simp at h
    exact ⟨i, rfl, h⟩
theorem rgsIn_append {F : Fence} {n : Nat} {w : World} {ops : Array Oper} {rest : List Oper} {o : Oper} {a : Act} {Q : Exit → Act → World → Prop} {n0 : Nat} {v : Value} {l : List Ac.Rg} (hgd : o.guard = none) (s x : Operand) (ho : o.op = .call { callee := .builtin .append, args := #[s, x], argTypes := #[28, 28] }) (hsv : a.eval s = v) (hv : RgO w n0 v l)
    (k : Nat) (r : Ac.Rg) (hxv : a.eval x = .slice (some ⟨k, 0, none⟩) 1 1) (hx : Has w k 33 (rgC r).toArray) (hs : l.length + 1 ≤ 2000000) (hn : n0 ≤ w.heap.size)
    (h : ∀ v' w', RgO w' n0 v' (l ++ [r]) → w.grownBy w' v.ownBlock → (v'.ownBlock = v.ownBlock ∨ v'.ownBlock = some w.heap.size) → wpListIn F n Try.prog ops Q rest (a.put o.dst v') w') : wpListIn F n Try.prog ops Q (o :: rest) a w := by
  obtain ⟨i, hi, hz, hz1, hz2⟩ := info_range
  refine wpListIn_append_at w hgd s x 28 ho n0 33 i _ 4 48 Try.underlying28 hi hz hz1 hz2 rfl (by decide) v l.length (rgsC l) hsv hv ⟨k, 0, none⟩ 1 1 (rgsC [r]) hxv rfl (fun j u hu => ?_) (rgsC_one _) (by simp only [maxLen]; omega) (by omega) hn (fun v' w' h1 h2 h3 => h v' w' ?_ h2 h3)
  · rw [addr0, hx.cell]
    simpa [rgsC] using hu
  · unfold RgO
    rw [List.length_append, List.length_singleton, rgsC_append]
    exact h1
end Go.Proofs.Ythpohjafnljfhaa
