import Derived.Test.YthdmmlaahjgijaaDoorB
import Derived.Test.YthdmmlaahjgijaaDoorV
import Derived.Test.YthdmmlaahjgijaaDoorY
import Derived.Test.YthdmmlaahjgijaaDoorCards
import Derived.Test.YthdmmlaahjgijaaDoorTie
import Derived.ProofKit
import Derived.OpenShut
import Derived.Deep.Slices
import Derived.Deep.Fields
import Derived.Lib.SmallJoins
import Derived.Deep.DeepHandedRow
import Derived.Lib.LaidTab
namespace Go.Proofs.YthdmmlaahjgijaaDoor
open Go.ChangeShapes Go.WideShapes Go.ChangeAt Go.RowKit Go.Deep

/-! ## The table of lead bytes, as the rows list it -/
theorem gTab : Tryd.prog.globalNamed "bellman/utf.leads" = some 0 := by kernel_rfl
theorem gTabType : (Tryd.prog.globals[0]?).map (·.type) = some 122 := by kernel_rfl
theorem cellsTab : Tryd.prog.cellsOf 122 = 36 := by kernel_rfl
theorem cellsLead : Tryd.prog.cellsOf 102 = 4 := by kernel_rfl
theorem cells64 : Tryd.prog.cellsOf 3 = 1 := by kernel_rfl
theorem cells8 : Tryd.prog.cellsOf 5 = 1 := by kernel_rfl
theorem leadDesc : ∃ fs, Tryd.prog.underlying 102 = some (.struct fs) ∧ fs.toList.map (fun f => (f.type, f.offset)) = [(3, 0), (3, 1), (5, 2), (3, 3)] := ⟨_, Tryd.underlying102, by kernel_rfl⟩
section
variable {H : Type} {enc : TypeId × Value → H}
set_option maxRecDepth 100000 in
theorem lit_of {W : World} {sp : Nat → Bool} {held : Bool} {fuel : Nat} {t : TypeId} {k : IntKind} (ht : Tryd.prog.underlying t = some (.int k)) {v : Value} {x : Option (DataW H × List MemPlace)} {z : Int} {p : List MemPlace}
    (h : DataW.trod enc Tryd.prog W 0 sp held fuel t [v] = x) (hx : x = some (.lit (.int k z), p)) : v = .int k z := by
  rw [hx] at h
  obtain ⟨n, hc, hd, _⟩ := DataW.trod_int ht h
  injection hc with hc
  injection hd with hd _
  injection hd with hd
  injection hd with _ hd
  rw [hc, hd]
set_option maxRecDepth 100000 in
theorem row_of {W : World} {sp : Nat → Bool} {held : Bool} {fuel : Nat} {cs : List Value} {x : DataW H × List MemPlace} (h : DataW.trod enc Tryd.prog W 0 sp held fuel 102 cs = some x) (a b c d : Int)
    (hx : x.1 = .agg [.lit (.int .i64 a), .lit (.int .i64 b), .lit (.int .u8 c), .lit (.int .i64 d)]) : cs = [.int .i64 a, .int .i64 b, .int .u8 c, .int .i64 d] := by
  obtain ⟨fs, hs, hfs⟩ := leadDesc
  obtain ⟨xs, n, _, rfl, hl, hxl, hf⟩ := DataW.trod_struct hs h
  rw [cellsLead] at hl
  simp only [DataW.agg.injEq] at hx
  obtain ⟨v0, v1, v2, v3, rfl⟩ : ∃ v0 v1 v2 v3, cs = [v0, v1, v2, v3] := by
    match cs, hl with
    | [v0, v1, v2, v3], _ => exact ⟨v0, v1, v2, v3, rfl⟩
  obtain ⟨y0, y1, y2, y3, rfl⟩ : ∃ y0 y1 y2 y3, xs = [y0, y1, y2, y3] := by
    have := congrArg List.length hx
    simp at this
    match xs, this with
    | [y0, y1, y2, y3], _ => exact ⟨y0, y1, y2, y3, rfl⟩
  simp only [List.map_cons, List.map_nil, List.cons.injEq, and_true] at hx
  obtain ⟨x0, x1, x2, x3⟩ := hx
  have key : ∀ (i : Nat) (t o : Nat), (fs.toList.map (fun f => (f.type, f.offset)))[i]? = some (t, o) → DataW.trod enc Tryd.prog W 0 sp held n t (([v0, v1, v2, v3].drop o).take (Tryd.prog.cellsOf t)) = [y0, y1, y2, y3][i]? := by
    intro i t o hi
    rw [List.getElem?_map] at hi
    cases hfi : fs.toList[i]? with
    | none => rw [hfi] at hi; cases hi
    | some f =>
      rw [hfi] at hi
      simp only [Option.map_some, Option.some.injEq, Prod.mk.injEq] at hi
      have := hf i f (by rw [← Array.getElem?_toList]; exact hfi)
      rw [hi.1, hi.2] at this
      exact this
  have k0 := key 0 3 0 (by rw [hfs]; rfl)
  have k1 := key 1 3 1 (by rw [hfs]; rfl)
  have k2 := key 2 5 2 (by rw [hfs]; rfl)
  have k3 := key 3 3 3 (by rw [hfs]; rfl)
  rw [cells64] at k0 k1 k3
  rw [cells8] at k2
  have e0 := lit_of Tryd.underlying3 k0 (show some y0 = some (.lit (.int .i64 a), y0.2) by rw [← x0])
  have e1 := lit_of Tryd.underlying3 k1 (show some y1 = some (.lit (.int .i64 b), y1.2) by rw [← x1])
  have e2 := lit_of Tryd.underlying5 k2 (show some y2 = some (.lit (.int .u8 c), y2.2) by rw [← x2])
  have e3 := lit_of Tryd.underlying3 k3 (show some y3 = some (.lit (.int .i64 d), y3.2) by rw [← x3])
  rw [e0, e1, e2, e3]
end
def leadsRows : List (List Value) := [[.int .i64 0, .int .i64 127, .int .u8 0, .int .i64 0], [.int .i64 128, .int .i64 2047, .int .u8 192, .int .i64 1], [.int .i64 2048, .int .i64 4095, .int .u8 224, .int .i64 2], [.int .i64 4096, .int .i64 53247, .int .u8 224, .int .i64 2], [.int .i64 53248, .int .i64 55295, .int .u8 224, .int .i64 2], [.int .i64 57344, .int .i64 65535, .int .u8 224, .int .i64 2], [.int .i64 65536, .int .i64 262143, .int .u8 240, .int .i64 3], [.int .i64 262144, .int .i64 1048575, .int .u8 240, .int .i64 3], [.int .i64 1048576, .int .i64 1114111, .int .u8 240, .int .i64 3]]
theorem chunks {cs : List Value} (hl : cs.length = 36) (rows : List (List Value)) (hr : rows.length = 9) (h : ∀ i, i < 9 → some ((cs.drop (i * 4)).take 4) = rows[i]?) : cs = rows.flatten := by
  have h0 := h 0 (by omega); have h1 := h 1 (by omega); have h2 := h 2 (by omega); have h3 := h 3 (by omega); have h4 := h 4 (by omega)
  have h5 := h 5 (by omega); have h6 := h 6 (by omega); have h7 := h 7 (by omega); have h8 := h 8 (by omega)
  match rows, hr with
  | [a0, a1, a2, a3, a4, a5, a6, a7, a8], _ =>
    simp at h0 h1 h2 h3 h4 h5 h6 h7 h8
    subst h0; subst h1; subst h2; subst h3; subst h4; subst h5; subst h6; subst h7; subst h8
    simp only [List.flatten_cons, List.flatten_nil, List.append_nil]
    have e : ∀ k, cs.drop k = (cs.drop k).take 4 ++ cs.drop (k + 4) := fun k => by rw [← List.drop_drop, List.take_append_drop]
    have e36 : cs.drop 36 = [] := List.drop_of_length_le (by omega)
    have f0 := e 0; have f1 := e 4; have f2 := e 8; have f3 := e 12; have f4 := e 16; have f5 := e 20; have f6 := e 24; have f7 := e 28; have f8 := e 32
    simp only [Nat.reduceAdd, List.drop_zero, Nat.zero_add] at f0 f1 f2 f3 f4 f5 f6 f7 f8
    rw [e36, List.append_nil] at f8
    conv => lhs; rw [f0, f1, f2, f3, f4, f5, f6, f7]
    rw [← f8]
/-- What the row's list gives. -/
theorem table {W : World} (h : laidMetH Tryd.prog [("bellman/utf.leads", Rows.laid_bellman_utf_leads)] W) : Tab W := by
  obtain ⟨ps, ⟨g', t', cs, fuel, p, q, hg', ht', hvar, hd, _, hps⟩, _, hcells⟩ := h
  obtain rfl := Option.some.inj (gTab.symm.trans hg')
  obtain rfl := Option.some.inj (gTabType.symm.trans ht')
  obtain ⟨xs, n, _, hx, hl, hxl, hf⟩ := DataW.trod_array Tryd.underlying122 hd
  rw [cellsTab] at hl
  have hlen : cs.size = 36 := by simpa using hl
  have hrow : MemPlace.cell 0 0 ∈ ps := by
    rw [hps, hlen]
    refine List.mem_append_left _ (List.mem_append_left _ ?_)
    decide
  obtain ⟨⟨c, t, hc⟩, _⟩ := hcells _ _ hrow
  have hcs : c = cs := by
    simp only [World.var?, gTab, Option.bind_some] at hvar
    rw [hc] at hvar
    simpa using hvar
  subst hcs
  refine ⟨t, c, hc, ?_⟩
  have hxm : xs.map (·.1) = _ := (congrArg (fun z : DataW Unit × List MemPlace => match z.1 with | .agg l => l | _ => []) hx).symm
  have hlist : c.toList = leadsCells := by
    have hch := chunks hl (leadsRows) rfl (by
      intro i hi
      have hfi := hf i hi
      rw [cellsLead] at hfi
      obtain ⟨y, hy⟩ : ∃ y, xs[i]? = some y := ⟨xs[i]'(by omega), List.getElem?_eq_getElem (by omega)⟩
      rw [hy] at hfi
      have hy1 : (xs.map (·.1))[i]? = some y.1 := by rw [List.getElem?_map, hy]; rfl
      rw [hxm] at hy1
      have his : i = 0 ∨ i = 1 ∨ i = 2 ∨ i = 3 ∨ i = 4 ∨ i = 5 ∨ i = 6 ∨ i = 7 ∨ i = 8 := by omega
      rcases his with rfl | rfl | rfl | rfl | rfl | rfl | rfl | rfl | rfl <;> exact congrArg some (row_of hfi _ _ _ _ (Option.some.inj hy1).symm))
    rw [hch]; rfl
  intro j v hj
  rw [← Array.getElem?_toList, hlist]
  exact hj

/-- A world for the witness: the settled one, the table as its initialiser lays it. -/
noncomputable def laidWorld (os : Os) : World :=
  { World.holding Tryd.prog os ⟨#[], #[], []⟩ with heap := (World.holding Tryd.prog os ⟨#[], #[], []⟩).heap.modify 0 fun
      | .cells _ t frozen => .cells leadsCells.toArray t frozen
      | o => o }

/-! ## Bytes that came in, opened -/
theorem bytes_of {H : Type} {enc : TypeId × Value → H} {W : World} {held : Bool} {fuel : Nat} {A : Option Addr} {len cap : Nat} {y : DataW H × List MemPlace} (h : DataW.trod enc Tryd.prog W 0 (fun _ => true) held fuel 22 [.slice A len cap] = some y) :
    ∃ l : List UInt8, len = l.length ∧ Rd W (· < W.heap.size) A l ∧ len ≤ cap ∧ cap ≤ maxLen := by
  rcases open_ints Tryd.underlying22 Tryd.underlying5 cells8 h with ⟨hcs, _⟩ | ⟨a, n, c, zs, hcs, _, hl, hm, hz, hx, hcell, hwz⟩
  · injection hcs with hcs
    injection hcs with h1 h2 h3
    subst h1; subst h2; subst h3
    exact ⟨[], rfl, fun h => absurd h (by simp), Nat.le_refl _, Nat.zero_le _⟩
  · injection hcs with hcs
    injection hcs with h1 h2 h3
    subst h1; subst h2; subst h3
    simp only [if_true] at hz
    have hll : ((zs.take len).map fun z => UInt8.ofNat z.toNat).length = len := by simp; omega
    refine ⟨(zs.take len).map fun z => UInt8.ofNat z.toNat, hll.symm, fun h0 => ?_, hl, hm⟩
    replace h0 : 0 < len := by rw [hll] at h0; exact h0
    refine ⟨a, rfl, World.block_lt_of_cell? W _ (by have := hcell 0 (by omega); simpa [Addr.add] using this), fun j u hu => ?_⟩
    obtain ⟨hj, rfl⟩ := byts_get hu
    replace hj : j < len := by rw [hll] at hj; exact hj
    rw [hcell j (by omega)]
    have hb := hwz (zs[j]'(by omega)) (List.getElem_mem _)
    have hb2 := bounds_u8 hb
    simp only [List.getElem_map, List.getElem_take, byt]
    rw [List.getD_eq_getElem?_getD, List.getElem?_eq_getElem (by omega)]
    simp only [Option.getD_some]
    congr 2
    rw [UInt8.toNat_ofNat']
    omega
end Go.Proofs.YthdmmlaahjgijaaDoor
