import Derived.Test.YtbmemkbfignlaaaGreatDoorPk41
import Derived.SizedLaws
import Derived.ChangeSame
import Derived.Lib.SmallJoins
import Derived.Deep.Slices
import Derived.Test.YtbmemkbfignlaaaGreatDoorPk51
import Derived.Test.YtbmemkbfignlaaaGreatDoorCards
import Derived.Test.YtbmemkbfignlaaaGreatDoorTie
import Derived.Test.YtbmemkbfignlaaaGreatDoorPk1
import Derived.Test.YtbmemkbfignlaaaGreatDoorPk49
import Derived.ProofKit
import Derived.OpenShut
import Derived.Deep.DeepHandedRow
import Derived.Lib.LaidTab
import Derived.Shelf.Vars
import Derived.LaidMore
import Derived.Lay
import Derived.Stop.Joined
namespace Go.Proofs.YtbmemkbfignlaaaGreatDoor
open Go.RowKit
attribute [local go_sem] Oper.semAt_some

/-! ## The law's few, num (written by gen11k.py) -/
def fewB (t : TgL) : Bool := (decide (t.1.length ≤ 20) && decide (t.2.length ≤ 20)) && ((t.1.all fun x => decide (x.length ≤ 60)) && (t.2.all fun q => decide (q.1.length + q.2.length ≤ 120)))
theorem few_part {p : List (List UInt8)} {qs : List PairL} {x : List UInt8} (h : x ∈ p) (hx : ¬ x.length ≤ 60) : fewB (p, qs) = false := by
  have : (p.all fun x => decide (x.length ≤ 60)) = false := by
    rw [List.all_eq_false]
    exact ⟨x, h, by simpa using hx⟩
  unfold fewB
  simp [this]
theorem few_pair {p : List (List UInt8)} {qs : List PairL} {q : PairL} (h : q ∈ qs) (hx : ¬ q.1.length + q.2.length ≤ 120) : fewB (p, qs) = false := by
  have : (qs.all fun q => decide (q.1.length + q.2.length ≤ 120)) = false := by
    rw [List.all_eq_false]
    exact ⟨q, h, by simpa using hx⟩
  unfold fewB
  simp [this]
theorem few_many2 {p : List (List UInt8)} {qs : List PairL} (h : ¬ qs.length ≤ 20) : fewB (p, qs) = false := by
  unfold fewB
  simp [h]
theorem few_all {p : List (List UInt8)} {qs : List PairL} (h1 : p.length ≤ 20 → (p.all fun x => decide (x.length ≤ 60)) = true) (h2 : qs.length ≤ 20 → (qs.all fun q => decide (q.1.length + q.2.length ≤ 120)) = true) : fewB (p, qs) = (decide (p.length ≤ 20) && decide (qs.length ≤ 20)) := by
  unfold fewB
  simp only
  by_cases a : p.length ≤ 20
  · by_cases b : qs.length ≤ 20
    · rw [h1 a, h2 b]; simp
    · simp [b]
  · simp [a]
theorem fewB_few {t : TgL} (h : fewB t = true) : t.1.length ≤ 20 ∧ t.2.length ≤ 20 ∧ (∀ x ∈ t.1, x.length ≤ 60) ∧ ∀ q ∈ t.2, q.1.length + q.2.length ≤ 120 := by
  unfold fewB at h
  simp only [Bool.and_eq_true, decide_eq_true_eq, List.all_eq_true] at h
  exact ⟨h.1.1, h.1.2, h.2.1, h.2.2⟩
theorem fewB_fewT {t : TgL} (h : fewB t = true) : FewT t := by
  obtain ⟨h1, h2, h3, h4⟩ := fewB_few h
  exact ⟨by omega, by omega, fun x hx => by have := h3 x hx; omega, fun q hq => by have := h4 q hq; omega⟩
/-- How great a target may be that came in. -/
structure ArgT (t : TgL) : Prop where
  parts : t.1.length ≤ 4611686018427387903
  pairs : t.2.length ≤ 4611686018427387903
  part : ∀ x ∈ t.1, x.length ≤ 4611686018427387903
  pair : ∀ q ∈ t.2, q.1.length + q.2.length ≤ 4611686018427387903
end Go.Proofs.YtbmemkbfignlaaaGreatDoor

namespace Go.Proofs.YtbmemkbfignlaaaGreatDoor
open Go.ChangeShapes Go.WideShapes Go.ChangeAt Go.RowKit Go.Deep Go.Joins

/-! ## Targets that came in, opened -/
section
variable {H : Type} {enc : TypeId × Value → H}
theorem mem_weightsT {P : Program} {e : TypeId} : ∀ {l : List (DataW H)} {d : DataW H} {n : Nat}, d ∈ l → n ∈ d.weights P e → n ∈ DataW.weightsAll P e l
  | x :: l, d, n, hd, hn => by
    simp only [DataW.weightsAll, List.mem_append]
    rcases List.mem_cons.1 hd with rfl | hd
    · exact .inl hn
    · exact .inr (mem_weightsT hd hn)
theorem pick_listT {α : Type} (P : Nat → α → Prop) : ∀ (n : Nat), (∀ i, i < n → ∃ d, P i d) → ∃ l : List α, l.length = n ∧ ∀ i d, l[i]? = some d → P i d
  | 0, _ => ⟨[], rfl, fun i d hd => by simp at hd⟩
  | n + 1, h => by
    obtain ⟨l, hl, hP⟩ := pick_listT P n (fun i hi => h i (by omega))
    obtain ⟨d, hd⟩ := h n (by omega)
    refine ⟨l ++ [d], by simp [hl], fun i x hx => ?_⟩
    rw [List.getElem?_append] at hx
    split at hx
    · exact hP i x hx
    · obtain rfl : i = n := by
        have := (List.getElem?_eq_some_iff.1 hx).1
        simp at this
        omega
      simp [hl] at hx
      rw [← hx]; exact hd
theorem oneT {α : Type} {l : List α} (h : l.length = 1) : ∃ a, l = [a] := by
  match l, h with
  | [a], _ => exact ⟨a, rfl⟩
theorem twoT {α : Type} {l : List α} (h : l.length = 2) : ∃ a b, l = [a, b] := by
  match l, h with
  | [a, b], _ => exact ⟨a, b, rfl⟩
theorem add_atT (b o i : Nat) : (⟨b, o, none⟩ : Addr).add i = ⟨b, o + i, none⟩ := by unfold Addr.add; split <;> simp_all
theorem str_mkT (s : ByteArray) : (⟨s.data.toList.toArray⟩ : ByteArray) = s := by
  cases s
  simp
theorem reach_le : reachBytes ≤ 140737488355328 := by decide
/-- Texts that came in. -/
theorem txs_of {W : World} {held : Bool} {fuel : Nat} {v : Value} {y : DataW H × List MemPlace} (h : DataW.trod enc Tryz.prog W 0 (fun _ => true) held fuel 29 [v] = some y) (hw : ∀ n ∈ y.1.weights Tryz.prog 29, n ≤ reachBytes) :
    ∃ (A : Option Addr) (c : Nat) (ls : List (List UInt8)), v = .slice A ls.length c ∧ ls.length ≤ 140737488355328 ∧ Txs W A ls ∧ ∀ x ∈ ls, x.length ≤ 140737488355328 := by
  have hre := reach_le
  rcases open_slice Tryz.underlying29 h with ⟨hcs, _⟩ | ⟨a, len, cap, m, n, D, Pl, hcs, _, hl, hm, hmm, hx, hi⟩
  · injection hcs with hcs
    exact ⟨none, 0, [], hcs, by simp, fun h => absurd h (by simp), fun x hx => by simp at hx⟩
  · injection hcs with hcs
    simp only [if_true] at hmm
    subst hmm
    have hC : Tryz.prog.cellsOf 9 = 1 := by kernel_rfl
    rw [hC] at hi
    have hb : Tryz.prog.bytesOf 9 = 16 := by kernel_rfl
    have hlen : len ≤ 140737488355328 := by
      have := hw ((((List.range len).map D).length + ((List.range (m - len)).map fun j => D (len + j)).length) * 16) (by
        rw [hx]
        simp [DataW.weights, Tryz.underlying29, hb])
      simp at this
      omega
    have key : ∀ i, i < len → ∃ x : List UInt8, W.cell? (a.add (i * 1)) = some (.string ⟨x.toArray⟩) ∧ x.length ≤ 140737488355328 := by
      intro i hil
      obtain ⟨cs', hc, ht⟩ := hi i (by omega)
      obtain ⟨_, hcl, hat⟩ := World.cells?_some hc
      obtain ⟨c0, rfl⟩ := oneT hcl
      obtain ⟨s, es, hy, ws⟩ := DataW.trod_string Tryz.underlying9 ht
      injection es with es
      subst es
      refine ⟨s.data.toList, ?_, ?_⟩
      · have := hat 0 (by omega)
        rw [str_mkT]
        simpa [Addr.add] using this
      · have hn := hw s.data.toList.length (by
          rw [hx]
          simp only [DataW.weights, Tryz.underlying29, List.mem_cons, List.mem_append]
          refine .inr (.inl (mem_weightsT (d := D i) (List.mem_map.2 ⟨i, List.mem_range.2 hil, rfl⟩) ?_))
          rw [Prod.mk.injEq] at hy
          rw [hy.1]
          simp [DataW.weights])
        omega
    obtain ⟨xs, hxl, hxs⟩ := pick_listT _ len key
    subst hxl
    refine ⟨some a, m, xs, hcs, hlen, fun h0 => ?_, fun x hx => ?_⟩
    · obtain ⟨h1, _⟩ := hxs 0 _ (List.getElem?_eq_getElem h0)
      have hs : a.spot = none := by simpa [Addr.add] using World.cell?_spot h1
      have hbl := World.block_lt_of_cell? W _ h1
      obtain ⟨b, o, spot⟩ := a
      subst hs
      refine ⟨b, o, rfl, by simpa [Addr.add] using hbl, fun i x hx => ?_⟩
      obtain ⟨h2, _⟩ := hxs i x hx
      rwa [add_atT, Nat.mul_one] at h2
    · obtain ⟨i, hi2⟩ := List.mem_iff_getElem?.1 hx
      exact (hxs i x hi2).2
/-- Pairs that came in. -/
theorem prs_of {W : World} {held : Bool} {fuel : Nat} {v : Value} {y : DataW H × List MemPlace} (h : DataW.trod enc Tryz.prog W 0 (fun _ => true) held fuel 30 [v] = some y) (hw : ∀ n ∈ y.1.weights Tryz.prog 30, n ≤ reachBytes) :
    ∃ (A : Option Addr) (c : Nat) (qs : List PairL), v = .slice A qs.length c ∧ qs.length ≤ 140737488355328 ∧ Prs W A qs ∧ ∀ q ∈ qs, q.1.length + q.2.length ≤ 281474976710656 := by
  have hre := reach_le
  rcases open_slice Tryz.underlying30 h with ⟨hcs, _⟩ | ⟨a, len, cap, m, n, D, Pl, hcs, _, hl, hm, hmm, hx, hi⟩
  · injection hcs with hcs
    exact ⟨none, 0, [], hcs, by simp, fun h => absurd h (by simp), fun x hx => by simp at hx⟩
  · injection hcs with hcs
    simp only [if_true] at hmm
    subst hmm
    have hC : Tryz.prog.cellsOf 88 = 2 := by kernel_rfl
    rw [hC] at hi
    have hb : Tryz.prog.bytesOf 88 = 32 := by kernel_rfl
    have k1 : Tryz.prog.cellsOf 9 = 1 := by kernel_rfl
    have hlen : len ≤ 140737488355328 := by
      have := hw ((((List.range len).map D).length + ((List.range (m - len)).map fun j => D (len + j)).length) * 32) (by
        rw [hx]
        simp [DataW.weights, Tryz.underlying30, hb])
      simp at this
      omega
    have key : ∀ i, i < len → ∃ q : PairL, (W.cell? (a.add (i * 2)) = some (.string ⟨q.1.toArray⟩) ∧ W.cell? (a.add (i * 2 + 1)) = some (.string ⟨q.2.toArray⟩)) ∧ q.1.length + q.2.length ≤ 281474976710656 := by
      intro i hil
      obtain ⟨cs', hc, ht⟩ := hi i (by omega)
      obtain ⟨_, hcl, hat⟩ := World.cells?_some hc
      obtain ⟨c0, c1, rfl⟩ := twoT hcl
      obtain ⟨y0, y1, k, hy, _, h0, h1⟩ := trod_struct2 Tryz.underlying88 ht
      obtain ⟨s0, e0, d0, _⟩ := DataW.trod_string Tryz.underlying9 (by simpa [k1] using h0)
      obtain ⟨s1, e1, d1, _⟩ := DataW.trod_string Tryz.underlying9 (by simpa [k1] using h1)
      injection e0 with e0
      injection e1 with e1
      subst e0; subst e1
      have hwt : ∀ n ∈ (DataW.agg [y0.1, y1.1] : DataW H).weights Tryz.prog 88, n ≤ reachBytes := fun n hn => hw n (by
        rw [hx]
        simp only [DataW.weights, Tryz.underlying30, List.mem_cons, List.mem_append]
        refine .inr (.inl (mem_weightsT (d := D i) (List.mem_map.2 ⟨i, List.mem_range.2 hil, rfl⟩) ?_))
        rw [Prod.mk.injEq] at hy
        rw [hy.1]; exact hn)
      have b0 := hwt s0.data.toList.length (by simp [DataW.weights, DataW.weightsEach, Tryz.underlying88, d0])
      have b1 := hwt s1.data.toList.length (by simp [DataW.weights, DataW.weightsEach, Tryz.underlying88, d1])
      refine ⟨(s0.data.toList, s1.data.toList), ⟨?_, ?_⟩, by simp only; omega⟩
      · have := hat 0 (by omega)
        rw [str_mkT]
        simpa [Addr.add] using this
      · have := hat 1 (by omega)
        rw [str_mkT, ← add_add_]
        simpa using this
    obtain ⟨xs, hxl, hxs⟩ := pick_listT _ len key
    subst hxl
    refine ⟨some a, m, xs, hcs, hlen, fun h0 => ?_, fun x hx => ?_⟩
    · obtain ⟨⟨h1, _⟩, _⟩ := hxs 0 _ (List.getElem?_eq_getElem h0)
      have hs : a.spot = none := by simpa [Addr.add] using World.cell?_spot h1
      have hbl := World.block_lt_of_cell? W _ h1
      obtain ⟨b, o, spot⟩ := a
      subst hs
      refine ⟨b, o, rfl, by simpa [Addr.add] using hbl, fun i x hx => ?_⟩
      obtain ⟨⟨h2, h3⟩, _⟩ := hxs i x hx
      rw [add_atT] at h2 h3
      exact ⟨h2, by rwa [← Nat.add_assoc] at h3⟩
    · obtain ⟨i, hi2⟩ := List.mem_iff_getElem?.1 hx
      exact (hxs i x hi2).2
/-- A target that came in, part by part. -/
theorem tg_of {W : World} {held : Bool} {k0 k1 : Nat} {a b : Value} {ya yb : DataW H × List MemPlace} (ha : DataW.trod enc Tryz.prog W 0 (fun _ => true) held k0 29 [a] = some ya) (hb : DataW.trod enc Tryz.prog W 0 (fun _ => true) held k1 30 [b] = some yb)
    (hw : ∀ n ∈ (DataW.agg [ya.1, yb.1] : DataW H).weights Tryz.prog 32, n ≤ reachBytes) :
    ∃ (A1 A2 : Option Addr) (c1 c2 : Nat) (t : TgL), a = .slice A1 t.1.length c1 ∧ b = .slice A2 t.2.length c2 ∧ ArgT t ∧ Txs W A1 t.1 ∧ Prs W A2 t.2 := by
  have hmem : ∀ n ∈ DataW.weightsEach Tryz.prog [29, 30] [ya.1, yb.1], n ≤ reachBytes := by
    intro n hn
    refine hw n ?_
    simpa [DataW.weights, Tryz.underlying32] using hn
  obtain ⟨A1, c1, ls, e1, l1, h1, m1⟩ := txs_of ha (fun n hn => hmem n (DataW.weights_mem_each (j := 0) rfl rfl n hn))
  obtain ⟨A2, c2, qs, e2, l2, h2, m2⟩ := prs_of hb (fun n hn => hmem n (DataW.weights_mem_each (j := 1) rfl rfl n hn))
  exact ⟨A1, A2, c1, c2, (ls, qs), e1, e2, ⟨by simp only; omega, by simp only; omega, fun x hx => by have := m1 x hx; omega, fun q hq => by have := m2 q hq; omega⟩, h1, h2⟩
end
end Go.Proofs.YtbmemkbfignlaaaGreatDoor

namespace Go.Proofs.YtbmemkbfignlaaaGreatDoor
open Go.ChangeShapes Go.WideShapes Go.ChangeAt Go.RowKit Go.Deep Go.Joins

/-! ## Requests that came in, opened -/
section
variable {H : Type} {enc : TypeId × Value → H}
theorem array7q {α : Type} {cs : Array α} (h : cs.size = 7) : ∃ a b c d e f g, cs = #[a, b, c, d, e, f, g] := by
  obtain ⟨l⟩ := cs
  match l, h with
  | [a, b, c, d, e, f, g], _ => exact ⟨a, b, c, d, e, f, g, rfl⟩
set_option maxRecDepth 100000 in
theorem rq_of {W : World} {held : Bool} {r : Reach} {b0 : Nat} {v : Value} {d : DataW H} {p : List MemPlace} (hv : Value.okWide Tryz.prog W r b0 34 v) (h : DataW.Trod enc Tryz.prog W 0 (fun _ => true) held 34 v d p) (hw : ∀ n ∈ d.weights Tryz.prog 34, n ≤ reachBytes) :
    ∃ a, RqAt W v a ∧ ArgQ a := by
  have hre := reach_le
  have hC : Tryz.prog.cellsOf 34 = 7 := by kernel_rfl
  have k1 : Tryz.prog.cellsOf 9 = 1 := by kernel_rfl
  have k2 : Tryz.prog.cellsOf 32 = 2 := by kernel_rfl
  have k3 : Tryz.prog.cellsOf 4 = 1 := by kernel_rfl
  have k4 : Tryz.prog.cellsOf 29 = 1 := by kernel_rfl
  have k5 : Tryz.prog.cellsOf 30 = 1 := by kernel_rfl
  obtain ⟨cs, rfl, hsz⟩ := okWide_struct Tryz.underlying34 hv
  obtain ⟨c0, c1, c2, c3, c4, c5, c6, rfl⟩ := array7q (hsz.trans hC)
  obtain ⟨fuel, hf⟩ := h
  obtain ⟨xs, n, _, hx, hl, hlen, hg⟩ := DataW.trod_struct Tryz.underlying34 hf
  obtain ⟨y0, y1, y2, y3, y4, y5, rfl⟩ : ∃ y0 y1 y2 y3 y4 y5, xs = [y0, y1, y2, y3, y4, y5] := by
    match xs, hlen with
    | [y0, y1, y2, y3, y4, y5], _ => exact ⟨y0, y1, y2, y3, y4, y5, rfl⟩
  have g0 : DataW.trod enc Tryz.prog W 0 (fun _ => true) held n 9 [c0] = some y0 := by simpa [Value.cells, k1] using hg 0 _ rfl
  have g1 : DataW.trod enc Tryz.prog W 0 (fun _ => true) held n 32 [c1, c2] = some y1 := by simpa [Value.cells, k2] using hg 1 _ rfl
  have g2 : DataW.trod enc Tryz.prog W 0 (fun _ => true) held n 4 [c3] = some y2 := by simpa [Value.cells, k3] using hg 2 _ rfl
  have g3 : DataW.trod enc Tryz.prog W 0 (fun _ => true) held n 4 [c4] = some y3 := by simpa [Value.cells, k3] using hg 3 _ rfl
  have g4 : DataW.trod enc Tryz.prog W 0 (fun _ => true) held n 4 [c5] = some y4 := by simpa [Value.cells, k3] using hg 4 _ rfl
  have g5 : DataW.trod enc Tryz.prog W 0 (fun _ => true) held n 9 [c6] = some y5 := by simpa [Value.cells, k1] using hg 5 _ rfl
  obtain ⟨s0, e0, _, _⟩ := DataW.trod_string Tryz.underlying9 g0
  obtain ⟨s5, e5, _, _⟩ := DataW.trod_string Tryz.underlying9 g5
  obtain ⟨b2, e2, _⟩ := DataW.trod_bool Tryz.underlying4 g2
  obtain ⟨b3, e3, _⟩ := DataW.trod_bool Tryz.underlying4 g3
  obtain ⟨b4, e4, _⟩ := DataW.trod_bool Tryz.underlying4 g4
  obtain ⟨z0, z1, k, hy, _, t0, t1⟩ := trod_struct2 Tryz.underlying32 g1
  simp only [Prod.mk.injEq] at hx
  injection e0 with e0
  injection e2 with e2
  injection e3 with e3
  injection e4 with e4
  injection e5 with e5
  subst e0 e2 e3 e4 e5
  have hwt : ∀ n ∈ y1.1.weights Tryz.prog 32, n ≤ reachBytes := fun n hn => hw n (by
    rw [hx.1]
    simp only [DataW.weights, Tryz.underlying34]
    exact DataW.weights_mem_each (j := 1) rfl rfl n hn)
  have hmem : ∀ n ∈ DataW.weightsEach Tryz.prog [29, 30] [z0.1, z1.1], n ≤ reachBytes := fun n hn => hwt n (by
    rw [hy]
    simpa [DataW.weights, Tryz.underlying32] using hn)
  obtain ⟨A1, n1, ls, e1, l1, h1, m1⟩ := txs_of (v := c1) (by simpa [k4] using t0) (fun n hn => hmem n (DataW.weights_mem_each (j := 0) rfl rfl n hn))
  obtain ⟨A2, n2, qs, e6, l2, h2, m2⟩ := prs_of (v := c2) (by simpa [k5] using t1) (fun n hn => hmem n (DataW.weights_mem_each (j := 1) rfl rfl n hn))
  subst e1 e6
  refine ⟨⟨s0.data.toList, (ls, qs), b2, b3, b4, s5.data.toList⟩, ⟨A1, n1, A2, n2, ?_, h1, h2⟩, ⟨l1, l2, m1, fun q hq => ?_⟩⟩
  · simp only [str_mkT]
  · have := m2 q hq
    exact ⟨by omega, by omega⟩
end
end Go.Proofs.YtbmemkbfignlaaaGreatDoor

namespace Go.Proofs.YtbmemkbfignlaaaGreatDoor
open Go.ChangeShapes Go.WideShapes Go.ChangeAt Go.RowKit

/-! ## What the rows give -/
theorem maxT_of {W : World} (h : W.ShapedOpen Tryz.prog) : MaxT W := by
  have hg : 0 < Tryz.prog.globals.size := of_decide_eq_true (by kernel_rfl)
  have h0 : ((begin Tryz.prog (fun _ _ => 0) default).world.heap[0]?).bind Obj.row? = some (#[.int .i64 0], 3) := by kernel_rfl
  obtain ⟨m, hm⟩ := cell_of_shapedOpen_int (k := .i64) h hg h0 rfl (by kernel_rfl) (by kernel_rfl) Tryz.underlying3
  obtain ⟨cs, hh, hs, _⟩ := h.1 _ _ _ hg h0
  have h1 : cs.size = 1 := hs
  refine ⟨m, ?_⟩
  have hc : cs[0]? = some (.int .i64 m) := by simpa [World.cell?, hh] using hm
  have hcs : cs = #[.int .i64 m] := by
    apply Array.ext
    · simp [h1]
    · intro i h2 h3
      have : i = 0 := by omega
      subst this
      have := (Array.getElem?_eq_some_iff.1 hc).2
      simpa using this
  rw [hcs] at hh
  exact hh
theorem gBases : Tryz.prog.globalNamed "bellman/decimal.bases" = some 3 := by kernel_rfl
theorem gBasesType : (Tryz.prog.globals[3]?).map (·.type) = some 227 := by kernel_rfl
theorem cellsBases : Tryz.prog.cellsOf 227 = 2 := by kernel_rfl
theorem cellsU64 : Tryz.prog.cellsOf 123 = 1 := by kernel_rfl
theorem laid_tail1 {P : Program} {n : String} {d : DataW Unit} {rest : List (String × DataW Unit)} {W : World} (h : laidMet P ((n, d) :: rest) W) : laidMet P rest W := by
  obtain ⟨ps, ⟨g, t, cs, fuel, p, q, h1, h2, h3, h4, h5, rfl⟩, hn, hc⟩ := h
  exact ⟨q, h5, (List.nodup_append.1 hn).2.1, fun b off hm => hc b off (List.mem_append_right _ hm)⟩
/-- What the rows' list gives. -/
theorem tabT_of {W : World} (h : laidMetH Tryz.prog [("unicode/utf8.acceptRanges", Rows.laid_unicode_utf8_acceptRanges), ("bellman/decimal.bases", Rows.laid_bellman_decimal_bases), ("unicode/utf8.first", Rows.laid_unicode_utf8_first)] W) (hs : W.ShapedOpen Tryz.prog) : TabT W := by
  have h0 : laidMet Tryz.prog [("unicode/utf8.acceptRanges", Rows.laid_unicode_utf8_acceptRanges), ("bellman/decimal.bases", Rows.laid_bellman_decimal_bases), ("unicode/utf8.first", Rows.laid_unicode_utf8_first)] W := h
  have t : Lib.TabIs Tryz.prog W "bellman/decimal.bases" .u64 [10, 16] :=
    Lib.tabIs_of_head gBases gBasesType Tryz.underlying227 Tryz.underlying123 cellsU64 cellsBases (laid_tail1 h0)
  exact ⟨⟨t.cell gBases 0 (by decide), t.cell gBases 1 (by decide)⟩, maxT_of hs⟩
/-- A start that is shaped, as its parts say, and meets a row's list. -/
theorem witness_row_sh {H : Type} {enc : TypeId × Value → H} {C : Checked} {os : Os} {f : FuncId} {fn : Func} {s : OpenSpec} {conds : List PathCond} {apart : Bool} {laid : List (String × DataW Unit)} (modest : Bool) (w0 : World) (args : Array Value) (hos : w0.os = os)
    (hsh : (w0.forCall (fun _ _ => 0) ⟨#[], args, []⟩).Shaped C.prog)
    (hok : Input.okWideB C.prog (w0.forCall (fun _ _ => 0) ⟨#[], args, []⟩) f ⟨#[], args, []⟩ = true)
    (hrow : s.preRow enc C.prog fn conds apart laid (w0.forCall (fun _ _ => 0) ⟨#[], args, []⟩).memory args) :
    ∃ (w : World) (tape : Tape) (i : Input), w.os = os ∧ (w.forCall tape i).Shaped C.prog ∧ i.vars = [] ∧ Input.okWide C.prog (w.forCall tape i) .any w.heap.size f i ∧
      s.preRow enc C.prog fn conds apart laid (w.forCall tape i).memory i.args ∧ ({ modest := modest } : Assume).holds C.prog (lone (Frame.enter C.prog f i.args .normal) [] (w.forCall tape i)) :=
  ⟨w0, fun _ _ => 0, ⟨#[], args, []⟩, hos, hsh, (Input.okWide_of_okWideB (base := 0) hok).1, (Input.okWide_of_okWideB hok).2, hrow, by
    simp only [Assume.holds]
    exact ⟨by simp, by simp, fun _ => Modest.zero, by simp, by simp⟩⟩
end Go.Proofs.YtbmemkbfignlaaaGreatDoor
