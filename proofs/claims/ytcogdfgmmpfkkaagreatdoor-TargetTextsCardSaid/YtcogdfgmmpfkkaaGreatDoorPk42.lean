import Derived.Test.YtcogdfgmmpfkkaaGreatDoorPk28
import Derived.SizedLaws
import Derived.ChangeSame
import Derived.Lib.SmallJoins
import Derived.Deep.Slices
namespace Go.Proofs.YtcogdfgmmpfkkaaGreatDoor
open Go.ChangeShapes Go.WideShapes Go.ChangeAt Go.RowKit Go.Deep Go.Joins

/-! ## Targets that came in, opened -/
section
variable {H : Type} {enc : TypeId × Value → H}
theorem mem_weightsT {P : Program} {e : TypeId} : ∀ {l : List (DataW H)} {d : DataW H} {n : Nat}, d ∈ l → n ∈ d.weights P e → n ∈ DataW.weightsAll P e l
  | x :: l, d, n, hd, hn => by
    simp only [DataW.weightsAll, List.mem_append]
    rcases List.mem_cons.1 hd with rfl | hd
    · exact .inl hn
    · exact .inr (mem_weightsT hd hn)
theorem pick_listT {α : Type} (P : Nat → α → Prop) : ∀ (n : Nat), (∀ i, i < n → ∃ d, P i d) → ∃ l : List α, l.length = n ∧ ∀ i d, l[i]? = some d → P i d
  | 0, _ => ⟨[], rfl, fun i d hd => by simp at hd⟩
  | n + 1, h => by
    obtain ⟨l, hl, hP⟩ := pick_listT P n (fun i hi => h i (by omega))
    obtain ⟨d, hd⟩ := h n (by omega)
    refine ⟨l ++ [d], by simp [hl], fun i x hx => ?_⟩
    rw [List.getElem?_append] at hx
    split at hx
    · exact hP i x hx
    · obtain rfl : i = n := by
        have := (List.getElem?_eq_some_iff.1 hx).1
        simp at this
        omega
      simp [hl] at hx
      rw [← hx]; exact hd
theorem oneT {α : Type} {l : List α} (h : l.length = 1) : ∃ a, l = [a] := by
  match l, h with
  | [a], _ => exact ⟨a, rfl⟩
theorem twoT {α : Type} {l : List α} (h : l.length = 2) : ∃ a b, l = [a, b] := by
  match l, h with
  | [a, b], _ => exact ⟨a, b, rfl⟩
theorem add_atT (b o i : Nat) : (⟨b, o, none⟩ : Addr).add i = ⟨b, o + i, none⟩ := by unfold Addr.add; split <;> simp_all
theorem str_mkT (s : ByteArray) : (⟨s.data.toList.toArray⟩ : ByteArray) = s := by
  cases s
  simp
theorem reach_le : reachBytes ≤ 140737488355328 := by decide
/-- Texts that came in. -/
theorem txs_of {W : World} {held : Bool} {fuel : Nat} {v : Value} {y : DataW H × List MemPlace} (h : DataW.trod enc Tryz.prog W 0 (fun _ => true) held fuel 23 [v] = some y) (hw : ∀ n ∈ y.1.weights Tryz.prog 23, n ≤ reachBytes) :
    ∃ (A : Option Addr) (c : Nat) (ls : List (List UInt8)), v = .slice A ls.length c ∧ ls.length ≤ 140737488355328 ∧ Txs W A ls ∧ ∀ x ∈ ls, x.length ≤ 140737488355328 := by
  have hre := reach_le
  rcases open_slice Tryz.underlying23 h with ⟨hcs, _⟩ | ⟨a, len, cap, m, n, D, Pl, hcs, _, hl, hm, hmm, hx, hi⟩
  · injection hcs with hcs
    exact ⟨none, 0, [], hcs, by simp, fun h => absurd h (by simp), fun x hx => by simp at hx⟩
  · injection hcs with hcs
    simp only [if_true] at hmm
    subst hmm
    have hC : Tryz.prog.cellsOf 9 = 1 := by kernel_rfl
    rw [hC] at hi
    have hb : Tryz.prog.bytesOf 9 = 16 := by kernel_rfl
    have hlen : len ≤ 140737488355328 := by
      have := hw ((((List.range len).map D).length + ((List.range (m - len)).map fun j => D (len + j)).length) * 16) (by
        rw [hx]
        simp [DataW.weights, Tryz.underlying23, hb])
      simp at this
      omega
    have key : ∀ i, i < len → ∃ x : List UInt8, W.cell? (a.add (i * 1)) = some (.string ⟨x.toArray⟩) ∧ x.length ≤ 140737488355328 := by
      intro i hil
      obtain ⟨cs', hc, ht⟩ := hi i (by omega)
      obtain ⟨_, hcl, hat⟩ := World.cells?_some hc
      obtain ⟨c0, rfl⟩ := oneT hcl
      obtain ⟨s, es, hy, ws⟩ := DataW.trod_string Tryz.underlying9 ht
      injection es with es
      subst es
      refine ⟨s.data.toList, ?_, ?_⟩
      · have := hat 0 (by omega)
        rw [str_mkT]
        simpa [Addr.add] using this
      · have hn := hw s.data.toList.length (by
          rw [hx]
          simp only [DataW.weights, Tryz.underlying23, List.mem_cons, List.mem_append]
          refine .inr (.inl (mem_weightsT (d := D i) (List.mem_map.2 ⟨i, List.mem_range.2 hil, rfl⟩) ?_))
          rw [Prod.mk.injEq] at hy
          rw [hy.1]
          simp [DataW.weights])
        omega
    obtain ⟨xs, hxl, hxs⟩ := pick_listT _ len key
    subst hxl
    refine ⟨some a, m, xs, hcs, hlen, fun h0 => ?_, fun x hx => ?_⟩
    · obtain ⟨h1, _⟩ := hxs 0 _ (List.getElem?_eq_getElem h0)
      have hs : a.spot = none := by simpa [Addr.add] using World.cell?_spot h1
      have hbl := World.block_lt_of_cell? W _ h1
      obtain ⟨b, o, spot⟩ := a
      subst hs
      refine ⟨b, o, rfl, by simpa [Addr.add] using hbl, fun i x hx => ?_⟩
      obtain ⟨h2, _⟩ := hxs i x hx
      rwa [add_atT, Nat.mul_one] at h2
    · obtain ⟨i, hi2⟩ := List.mem_iff_getElem?.1 hx
      exact (hxs i x hi2).2
/-- Pairs that came in. -/
theorem prs_of {W : World} {held : Bool} {fuel : Nat} {v : Value} {y : DataW H × List MemPlace} (h : DataW.trod enc Tryz.prog W 0 (fun _ => true) held fuel 24 [v] = some y) (hw : ∀ n ∈ y.1.weights Tryz.prog 24, n ≤ reachBytes) :
    ∃ (A : Option Addr) (c : Nat) (qs : List PairL), v = .slice A qs.length c ∧ qs.length ≤ 140737488355328 ∧ Prs W A qs ∧ ∀ q ∈ qs, q.1.length + q.2.length ≤ 281474976710656 := by
  have hre := reach_le
  rcases open_slice Tryz.underlying24 h with ⟨hcs, _⟩ | ⟨a, len, cap, m, n, D, Pl, hcs, _, hl, hm, hmm, hx, hi⟩
  · injection hcs with hcs
    exact ⟨none, 0, [], hcs, by simp, fun h => absurd h (by simp), fun x hx => by simp at hx⟩
  · injection hcs with hcs
    simp only [if_true] at hmm
    subst hmm
    have hC : Tryz.prog.cellsOf 46 = 2 := by kernel_rfl
    rw [hC] at hi
    have hb : Tryz.prog.bytesOf 46 = 32 := by kernel_rfl
    have k1 : Tryz.prog.cellsOf 9 = 1 := by kernel_rfl
    have hlen : len ≤ 140737488355328 := by
      have := hw ((((List.range len).map D).length + ((List.range (m - len)).map fun j => D (len + j)).length) * 32) (by
        rw [hx]
        simp [DataW.weights, Tryz.underlying24, hb])
      simp at this
      omega
    have key : ∀ i, i < len → ∃ q : PairL, (W.cell? (a.add (i * 2)) = some (.string ⟨q.1.toArray⟩) ∧ W.cell? (a.add (i * 2 + 1)) = some (.string ⟨q.2.toArray⟩)) ∧ q.1.length + q.2.length ≤ 281474976710656 := by
      intro i hil
      obtain ⟨cs', hc, ht⟩ := hi i (by omega)
      obtain ⟨_, hcl, hat⟩ := World.cells?_some hc
      obtain ⟨c0, c1, rfl⟩ := twoT hcl
      obtain ⟨y0, y1, k, hy, _, h0, h1⟩ := trod_struct2 Tryz.underlying46 ht
      obtain ⟨s0, e0, d0, _⟩ := DataW.trod_string Tryz.underlying9 (by simpa [k1] using h0)
      obtain ⟨s1, e1, d1, _⟩ := DataW.trod_string Tryz.underlying9 (by simpa [k1] using h1)
      injection e0 with e0
      injection e1 with e1
      subst e0; subst e1
      have hwt : ∀ n ∈ (DataW.agg [y0.1, y1.1] : DataW H).weights Tryz.prog 46, n ≤ reachBytes := fun n hn => hw n (by
        rw [hx]
        simp only [DataW.weights, Tryz.underlying24, List.mem_cons, List.mem_append]
        refine .inr (.inl (mem_weightsT (d := D i) (List.mem_map.2 ⟨i, List.mem_range.2 hil, rfl⟩) ?_))
        rw [Prod.mk.injEq] at hy
        rw [hy.1]; exact hn)
      have b0 := hwt s0.data.toList.length (by simp [DataW.weights, DataW.weightsEach, Tryz.underlying46, d0])
      have b1 := hwt s1.data.toList.length (by simp [DataW.weights, DataW.weightsEach, Tryz.underlying46, d1])
      refine ⟨(s0.data.toList, s1.data.toList), ⟨?_, ?_⟩, by simp only; omega⟩
      · have := hat 0 (by omega)
        rw [str_mkT]
        simpa [Addr.add] using this
      · have := hat 1 (by omega)
        rw [str_mkT, ← add_add_]
        simpa using this
    obtain ⟨xs, hxl, hxs⟩ := pick_listT _ len key
    subst hxl
    refine ⟨some a, m, xs, hcs, hlen, fun h0 => ?_, fun x hx => ?_⟩
    · obtain ⟨⟨h1, _⟩, _⟩ := hxs 0 _ (List.getElem?_eq_getElem h0)
      have hs : a.spot = none := by simpa [Addr.add] using World.cell?_spot h1
      have hbl := World.block_lt_of_cell? W _ h1
      obtain ⟨b, o, spot⟩ := a
      subst hs
      refine ⟨b, o, rfl, by simpa [Addr.add] using hbl, fun i x hx => ?_⟩
      obtain ⟨⟨h2, h3⟩, _⟩ := hxs i x hx
      rw [add_atT] at h2 h3
      exact ⟨h2, by rwa [← Nat.add_assoc] at h3⟩
    · obtain ⟨i, hi2⟩ := List.mem_iff_getElem?.1 hx
      exact (hxs i x hi2).2
/-- A target that came in, part by part. -/
theorem tg_of {W : World} {held : Bool} {k0 k1 : Nat} {a b : Value} {ya yb : DataW H × List MemPlace} (ha : DataW.trod enc Tryz.prog W 0 (fun _ => true) held k0 23 [a] = some ya) (hb : DataW.trod enc Tryz.prog W 0 (fun _ => true) held k1 24 [b] = some yb)
    (hw : ∀ n ∈ (DataW.agg [ya.1, yb.1] : DataW H).weights Tryz.prog 26, n ≤ reachBytes) :
    ∃ (A1 A2 : Option Addr) (c1 c2 : Nat) (t : TgL), a = .slice A1 t.1.length c1 ∧ b = .slice A2 t.2.length c2 ∧ ArgT t ∧ Txs W A1 t.1 ∧ Prs W A2 t.2 := by
  have hmem : ∀ n ∈ DataW.weightsEach Tryz.prog [23, 24] [ya.1, yb.1], n ≤ reachBytes := by
    intro n hn
    refine hw n ?_
    simpa [DataW.weights, Tryz.underlying26] using hn
  obtain ⟨A1, c1, ls, e1, l1, h1, m1⟩ := txs_of ha (fun n hn => hmem n (DataW.weights_mem_each (j := 0) rfl rfl n hn))
  obtain ⟨A2, c2, qs, e2, l2, h2, m2⟩ := prs_of hb (fun n hn => hmem n (DataW.weights_mem_each (j := 1) rfl rfl n hn))
  exact ⟨A1, A2, c1, c2, (ls, qs), e1, e2, ⟨by simp only; omega, by simp only; omega, fun x hx => by have := m1 x hx; omega, fun q hq => by have := m2 q hq; omega⟩, h1, h2⟩
end
end Go.Proofs.YtcogdfgmmpfkkaaGreatDoor
