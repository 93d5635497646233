import Derived.Test.YtfblkfjjpnnhhaaDoorK
import Derived.Test.YtfblkfjjpnnhhaaDoorY
import Derived.Test.YtfblkfjjpnnhhaaDoorCards
import Derived.Test.YtfblkfjjpnnhhaaDoorTie
import Derived.ProofKit
import Derived.OpenShut
import Derived.SizedLaws
import Derived.Deep.Slices
import Derived.Deep.Fields
import Derived.ChangeSame
import Derived.Lib.SmallJoins
import Derived.Deep.DeepHandedRow
import Derived.Lib.LaidTab
namespace Go.Proofs.YtfblkfjjpnnhhaaDoor
open Go.ChangeShapes Go.WideShapes Go.ChangeAt Go.RowKit Go.Deep

/-! ## Arguments, opened -/
theorem cells8 : Tryd.prog.cellsOf 5 = 1 := by kernel_rfl
theorem bytes8 : Tryd.prog.bytesOf 5 = 1 := by kernel_rfl
section
variable {H : Type} {enc : TypeId × Value → H}
theorem part_of_trod {W : World} {held : Bool} {fuel : Nat} {v : Value} {y : DataW H × List MemPlace} (h : DataW.trod enc Tryd.prog W 0 (fun _ => true) held fuel 30 [v] = some y) (hw : ∀ n ∈ y.1.weights Tryd.prog 30, n ≤ reachBytes) :
    ∃ p : Part, v = p.val ∧ Sound W (· < W.heap.size) p := by
  rcases open_ints Tryd.underlying30 Tryd.underlying5 cells8 h with ⟨hcs, _⟩ | ⟨a, len, cap, zs, hcs, _, hl, hm, hz, hx, hcell, hwz⟩
  · injection hcs with hcs
    exact ⟨⟨none, [], 0⟩, hcs, Rd.nil _ _ _, Nat.le_refl _, by simp⟩
  · injection hcs with hcs
    simp only [if_true] at hz
    have hc : cap ≤ reachBytes := by
      have := hw ((lits .u8 (zs.take len) : List (DataW H)).length + (lits .u8 (zs.drop len) : List (DataW H)).length) (by
        rw [hx]
        simp [DataW.weights, Tryd.underlying30, bytes8])
      simp [lits] at this
      omega
    have hr : reachBytes ≤ 140737488355328 := by decide
    have hll : ((zs.take len).map fun z => UInt8.ofNat z.toNat).length = len := by simp; omega
    refine ⟨⟨some a, (zs.take len).map fun z => UInt8.ofNat z.toNat, cap⟩, by rw [hcs]; simp only [Part.val]; rw [hll], ?_, by show _ ≤ cap; rw [hll]; exact hl, by show cap ≤ _; omega⟩
    intro h0
    replace h0 : 0 < len := by rw [hll] at h0; exact h0
    refine ⟨a, rfl, World.block_lt_of_cell? W _ (by have := hcell 0 (by omega); simpa [Addr.add] using this), fun j u hu => ?_⟩
    obtain ⟨hj, rfl⟩ := byts_get hu
    replace hj : j < len := by rw [hll] at hj; exact hj
    rw [hcell j (by omega)]
    have hb := hwz (zs[j]'(by omega)) (List.getElem_mem _)
    have hb2 := bounds_u8 hb
    simp only [List.getElem_map, List.getElem_take, byt]
    rw [List.getD_eq_getElem?_getD, List.getElem?_eq_getElem (by omega)]
    simp only [Option.getD_some]
    congr 2
    rw [UInt8.toNat_ofNat']
    omega
/-- What four fields tell is a call. -/
theorem deed_of {W : World} {held : Bool} {fuel : Nat} {v0 v1 v2 v3 : Value} {y0 y1 y2 y3 : DataW H × List MemPlace} (h0 : DataW.trod enc Tryd.prog W 0 (fun _ => true) held fuel 3 [v0] = some y0) (h1 : DataW.trod enc Tryd.prog W 0 (fun _ => true) held fuel 3 [v1] = some y1)
    (h2 : DataW.trod enc Tryd.prog W 0 (fun _ => true) held fuel 30 [v2] = some y2) (h3 : DataW.trod enc Tryd.prog W 0 (fun _ => true) held fuel 30 [v3] = some y3)
    (hw : ∀ n ∈ (DataW.agg [y0.1, y1.1, y2.1, y3.1] : DataW H).weights Tryd.prog 36, n ≤ reachBytes) :
    ∃ d : Deed, v0 = .int .i64 d.what ∧ v1 = .int .i64 d.n ∧ v2 = d.a.val ∧ v3 = d.b.val ∧ DeedOk W (· < W.heap.size) d := by
  obtain ⟨n0, e0, _, b0⟩ := DataW.trod_int Tryd.underlying3 h0
  obtain ⟨n1, e1, _, b1⟩ := DataW.trod_int Tryd.underlying3 h1
  injection e0 with e0
  injection e1 with e1
  have hmem : ∀ n ∈ DataW.weightsEach Tryd.prog [3, 3, 30, 30] [y0.1, y1.1, y2.1, y3.1], n ≤ reachBytes := by
    intro n hn
    refine hw n ?_
    simpa [DataW.weights, Tryd.underlying36] using hn
  obtain ⟨a, ea, ha⟩ := part_of_trod h2 (fun n hn => hmem n (DataW.weights_mem_each (j := 2) rfl rfl n hn))
  obtain ⟨b, eb, hb⟩ := part_of_trod h3 (fun n hn => hmem n (DataW.weights_mem_each (j := 3) rfl rfl n hn))
  have c0 := bounds_i64 b0
  have c1 := bounds_i64 b1
  exact ⟨⟨n0, n1, a, b⟩, e0, e1, ea, eb, ha, hb, by omega, by omega⟩
theorem mem_weightsAll {P : Program} {e : TypeId} : ∀ {l : List (DataW H)} {d : DataW H} {n : Nat}, d ∈ l → n ∈ d.weights P e → n ∈ DataW.weightsAll P e l
  | x :: l, d, n, hd, hn => by
    simp only [DataW.weightsAll, List.mem_append]
    rcases List.mem_cons.1 hd with rfl | hd
    · exact .inl hn
    · exact .inr (mem_weightsAll hd hn)
theorem list_choose {α : Type} (P : Nat → α → Prop) : ∀ (n : Nat), (∀ i, i < n → ∃ d, P i d) → ∃ l : List α, l.length = n ∧ ∀ i d, l[i]? = some d → P i d
  | 0, _ => ⟨[], rfl, fun i d hd => by simp at hd⟩
  | n + 1, h => by
    obtain ⟨l, hl, hP⟩ := list_choose P n (fun i hi => h i (by omega))
    obtain ⟨d, hd⟩ := h n (by omega)
    refine ⟨l ++ [d], by simp [hl], fun i x hx => ?_⟩
    rw [List.getElem?_append] at hx
    split at hx
    · exact hP i x hx
    · obtain rfl : i = n := by
        have := (List.getElem?_eq_some_iff.1 hx).1
        simp at this
        omega
      simp [hl] at hx
      rw [← hx]; exact hd
theorem four {α : Type} {l : List α} (h : l.length = 4) : ∃ a b c d, l = [a, b, c, d] := by
  match l, h with
  | [a, b, c, d], _ => exact ⟨a, b, c, d, rfl⟩
/-- A slice of calls, opened. -/
theorem deeds_of {W : World} {held : Bool} {fuel : Nat} {v : Value} {y : DataW H × List MemPlace} (h : DataW.trod enc Tryd.prog W 0 (fun _ => true) held fuel 22 [v] = some y) (hw : ∀ n ∈ y.1.weights Tryd.prog 22, n ≤ reachBytes) :
    ∃ (A : Option Addr) (c : Nat) (ds : List Deed), v = .slice A ds.length c ∧ ds.length ≤ 140737488355328 ∧ Deeds W (· < W.heap.size) A ds := by
  rcases open_slice Tryd.underlying22 h with ⟨hcs, _⟩ | ⟨a, len, cap, m, n, D, Pl, hcs, _, hl, hm, hmm, hx, hi⟩
  · injection hcs with hcs
    exact ⟨none, 0, [], hcs, by simp, fun h => absurd h (by simp), fun d hd => (List.not_mem_nil hd).elim⟩
  · injection hcs with hcs
    simp only [if_true] at hmm
    subst hmm
    have hC : Tryd.prog.cellsOf 36 = 4 := by kernel_rfl
    rw [hC] at hi
    have k1 : Tryd.prog.cellsOf 3 = 1 := by kernel_rfl
    have k2 : Tryd.prog.cellsOf 30 = 1 := by kernel_rfl
    have hb32 : Tryd.prog.bytesOf 36 = 64 := by kernel_rfl
    have hlen : len ≤ 140737488355328 := by
      have := hw ((((List.range len).map D).length + ((List.range (m - len)).map fun j => D (len + j)).length) * 64) (by
        rw [hx]
        simp [DataW.weights, Tryd.underlying22, hb32])
      simp at this
      have hr : reachBytes ≤ 140737488355328 := by decide
      omega
    have key : ∀ i, i < len → ∃ d : Deed, (W.cell? (a.add (i * 4)) = some (.int .i64 d.what) ∧ W.cell? (a.add (i * 4 + 1)) = some (.int .i64 d.n) ∧ W.cell? (a.add (i * 4 + 2)) = some d.a.val ∧ W.cell? (a.add (i * 4 + 3)) = some d.b.val) ∧ DeedOk W (· < W.heap.size) d := by
      intro i hil
      obtain ⟨cs', hc, ht⟩ := hi i (by omega)
      obtain ⟨_, hcl, hat⟩ := World.cells?_some hc
      obtain ⟨c0, c1, c2, c3, rfl⟩ := four hcl
      obtain ⟨y0, y1, y2, y3, k, hy, _, h0, h1, h2, h3⟩ := Go.Joins.trod_struct4 Tryd.underlying36 ht
      simp only [Prod.mk.injEq] at hy
      obtain ⟨d, e0, e1, e2, e3, hd⟩ := deed_of (by simpa [k1] using h0) (by simpa [k1] using h1) (by simpa [k2] using h2) (by simpa [k2] using h3) (fun k hk => hw k (by
        rw [hx]
        simp only [DataW.weights, Tryd.underlying22, List.mem_cons, List.mem_append]
        exact .inr (.inl (mem_weightsAll (d := D i) (List.mem_map.2 ⟨i, List.mem_range.2 hil, rfl⟩) (by rw [hy.1]; exact hk)))))
      refine ⟨d, ⟨?_, ?_, ?_, ?_⟩, hd⟩
      · have := hat 0 (by omega); rw [add_add_] at this; simpa [e0] using this
      · have := hat 1 (by omega); rw [add_add_] at this; simpa [e1] using this
      · have := hat 2 (by omega); rw [add_add_] at this; simpa [e2] using this
      · have := hat 3 (by omega); rw [add_add_] at this; simpa [e3] using this
    obtain ⟨ds, hdl, hds⟩ := list_choose _ len key
    subst hdl
    refine ⟨some a, _, ds, hcs, hlen, fun h0 => ?_, fun d hd => ?_⟩
    · have h1 := (hds 0 _ (List.getElem?_eq_getElem h0)).1.1
      have hs : a.spot = none := by simpa [Addr.add] using World.cell?_spot h1
      have hbl := World.block_lt_of_cell? W _ h1
      obtain ⟨b, o, spot⟩ := a
      subst hs
      refine ⟨b, o, rfl, by simpa [Addr.add] using hbl, fun i d hd => ?_⟩
      have := (hds i d hd).1
      simp only [add_zero_] at this
      exact this
    · obtain ⟨i, hi', rfl⟩ := List.getElem_of_mem hd
      exact (hds i _ (List.getElem?_eq_getElem hi')).2
end
end Go.Proofs.YtfblkfjjpnnhhaaDoor
