import Derived.Test.YtcogdfgmmpfkkaaGreatDoorPk45
import Derived.Test.YtcogdfgmmpfkkaaGreatDoorPk22
import Derived.Lib.MinMax
import Derived.Deep.CutRange
namespace Go.Proofs.YtcogdfgmmpfkkaaGreatDoor
open Go.RowKit
attribute [local go_sem] Oper.semAt_some
attribute [local go_sem] wideF_fn wideF_depth wideF_round

/-! ## What stands while a target's pairs are gone over, twice -/
structure QlM (w5 : World) (T k : Nat) (t : Int) (ds : List Nat) (n : Int) (W : World) : Prop where
  bT : Has W T 3 #[.int .i64 t]
  bk : Has W k 3 #[.int .i64 n]
  ds : ∀ D ∈ ds, NoCalls W D
  be : Below w5.heap.size w5 W
theorem rowQ_at {X Y : World} {row : Option Nat} {D B : Nat} (hs : NoCalls X D) (hD : D < B) (hg : X.grownBy Y row) (hr : ∀ r, row = some r → B ≤ r ∧ ∃ o : Obj, X.heap[r]? = some o ∧ o.isCells = false) : NoCalls Y D :=
  (hg.block D hs.lt (fun e => by have := (hr D e.symm).1; omega)).trans hs
theorem QlM.from {w5 X Y : World} {T k : Nat} {t : Int} {ds : List Nat} {n : Int} {row : Option Nat} {B : Nat} (h : QlM w5 T k t ds n X) (hds : ∀ D ∈ ds, D < B) (hB : w5.heap.size ≤ B) (hg : X.grownBy Y row) (hr : ∀ r, row = some r → B ≤ r ∧ ∃ o : Obj, X.heap[r]? = some o ∧ o.isCells = false) : QlM w5 T k t ds n Y :=
  ⟨h.bT.row hg hr, h.bk.row hg hr, fun D hD => rowQ_at (h.ds D hD) (hds D hD) hg hr, h.be.grown hg h.be.size (fun g e => by have := (hr g e).1; omega)⟩
theorem QlM.count {w5 W : World} {T k : Nat} {t : Int} {ds : List Nat} {n : Int} (h : QlM w5 T k t ds n W) (hk : w5.heap.size ≤ k) (hTk : T ≠ k) (n' : Int) : QlM w5 T k t ds n' (W.setCell ⟨k, 0, none⟩ (.int .i64 n')) :=
  ⟨h.bT.other hTk _, h.bk.put 0 _, fun D hD => (h.ds D hD).set h.bk _, h.be.setCell (p := ⟨k, 0, none⟩) hk _⟩
def valQ (qs : List PairL) (x : Nat) : PairL := qs.getD x ([], [])
def FitV (qs : List PairL) (pre : List Nat) : Prop := pre.map (valQ qs) = qs.take pre.length ∧ pre.length ≤ qs.length
theorem valQ_at (qs : List PairL) (x : Nat) : valQ qs x = qs[x]?.getD ([], []) := by unfold valQ; rw [List.getD_eq_getElem?_getD]
theorem valQ_len (qs : List PairL) (x m : Nat) (h : ∀ q ∈ qs, q.1.length + q.2.length ≤ m) : (qs[x]?.getD ([], [])).1.length + (qs[x]?.getD ([], [])).2.length ≤ m := by
  cases hx : qs[x]? with
  | none => simp
  | some q => exact h q (List.mem_of_getElem? hx)
theorem fitV_nil (qs : List PairL) : FitV qs [] := ⟨rfl, Nat.zero_le _⟩
theorem fitV_next {qs : List PairL} {pre : List Nat} {x : Nat} (h : FitV qs pre) (hN : pre.length < qs.length) (hx : valQ qs x = qs[pre.length]) : FitV qs (pre ++ [x]) := by
  obtain ⟨h1, _⟩ := h
  refine ⟨?_, by simp; omega⟩
  rw [List.length_append, List.length_singleton, take_next qs hN, List.map_append, h1, List.map_singleton, hx]
theorem fitV_last {qs : List PairL} {pre : List Nat} {x : Nat} (h : FitV qs (pre ++ [x])) (hN : pre.length < qs.length) : valQ qs x = qs[pre.length] := by
  obtain ⟨h1, h2⟩ := h
  rw [List.length_append, List.length_singleton, take_next qs hN, List.map_append] at h1
  have hl : (pre.map (valQ qs)).length = (qs.take pre.length).length := by rw [List.length_map, List.length_take]; omega
  have := (List.append_inj h1 hl).2
  simpa using this
theorem fitV_part (qs : List PairL) (j : Nat) (h : j ≤ qs.length) : FitV qs (List.range j) := by
  refine ⟨?_, by rw [List.length_range]; exact h⟩
  rw [List.length_range]
  apply List.ext_getElem
  · simp; omega
  · intro i h1 h2
    simp at h1
    have hi : i < qs.length := by omega
    simp [valQ, List.getElem?_eq_getElem hi]
def QlI (qs : List PairL) (w5 : World) (m : Int) (T k : Nat) (t : Int) (ds : List Nat) (pre : List Nat) (W : World) : Prop :=
  (FitV qs pre ∧ (t = 0 → pre.length = 0 ∨ (pre.length : Int) < m)) ∧ QlM w5 T k t ds pre.length W
def QlX (qs : List PairL) (id : Nat) (w5 : World) (m : Int) (T k : Nat) (t : Int) (ds : List Nat) (c : Code) (pre : List Nat) (W : World) : Prop :=
  (c = .ret ∧ ¬ FitV qs pre) ∨ (c = .exit id ∧ t = 0 ∧ FitV qs pre ∧ m ≤ (pre.length : Int) ∧ (pre.length = 1 ∨ (pre.length : Int) - 1 < m) ∧ 0 < pre.length ∧ QlM w5 T k t ds pre.length W)
def qlCount (m : Int) (N : Nat) (t : Int) : Int := if t = 0 then min (N : Int) (max 1 m) else N
theorem qlI_from (qs : List PairL) (w5 : World) (m : Int) (T k : Nat) (t : Int) (ds : List Nat) (B : Nat) (hds : ∀ D ∈ ds, D < B) (hB : w5.heap.size ≤ B) : OwnFrom B (QlI qs w5 m T k t ds) := fun _ _ _ _ hs hg hr => ⟨hs.1, hs.2.from hds hB hg hr⟩
theorem qlX_from (qs : List PairL) (id : Nat) (w5 : World) (m : Int) (T k : Nat) (t : Int) (ds : List Nat) (B : Nat) (hds : ∀ D ∈ ds, D < B) (hB : w5.heap.size ≤ B) (c : Code) : OwnFrom B (QlX qs id w5 m T k t ds c) := fun _ _ _ _ hs hg hr => by
  rcases hs with hs | ⟨h1, h2, h3, h4, h5, h6, h7⟩
  · exact .inl hs
  · exact .inr ⟨h1, h2, h3, h4, h5, h6, h7.from hds hB hg hr⟩
theorem ql_all {qs : List PairL} {w5 W : World} {m : Int} {T k : Nat} {t : Int} {ds : List Nat} {xs : List Nat} (h : xs = List.range qs.length) (hI : QlI qs w5 m T k t ds xs W) : QlM w5 T k t ds (qlCount m qs.length t) W := by
  obtain ⟨⟨_, hc⟩, hM⟩ := hI
  have hl : xs.length = qs.length := by rw [h, List.length_range]
  have : (xs.length : Int) = qlCount m qs.length t := by
    unfold qlCount
    split
    · rename_i ht
      have := hc ht
      by_cases h0 : xs.length = 0
      · omega
      · omega
    · omega
  rw [← this]; exact hM
theorem ql_left {qs : List PairL} {id : Nat} {w5 W : World} {m : Int} {T k : Nat} {t : Int} {ds : List Nat} {c : Code} {pre : List Nat} (h : ∃ j, j < qs.length ∧ pre = List.range (j + 1)) (hI : QlX qs id w5 m T k t ds c pre W) : c = .exit id ∧ QlM w5 T k t ds (qlCount m qs.length t) W := by
  obtain ⟨j, hj, rfl⟩ := h
  rcases hI with ⟨_, hn⟩ | ⟨rfl, rfl, hf, h1, h2, h3, hM⟩
  · exact absurd (fitV_part qs (j + 1) (by omega)) hn
  · refine ⟨rfl, ?_⟩
    have hle := hf.2
    have : (((List.range (j + 1)).length : Nat) : Int) = qlCount m qs.length 0 := by unfold qlCount; simp only [List.length_range] at *; simp; omega
    rw [← this]; exact hM
/-- Where a key stands first. -/
theorem getQ_drop {key : List UInt8} {qs : List PairL} {k : Nat} (hk : k < qs.length) (h : qs[k].1 ≠ key) : getQ key (qs.drop k) = getQ key (qs.drop (k + 1)) := by
  rw [List.drop_eq_getElem_cons hk]
  show (if qs[k].1 = key then _ else _) = _
  rw [if_neg h]
theorem getQ_hit {key : List UInt8} {qs : List PairL} {k : Nat} (hk : k < qs.length) (h : qs[k].1 = key) : getQ key (qs.drop k) = some qs[k].2 := by
  rw [List.drop_eq_getElem_cons hk]
  show (if qs[k].1 = key then _ else _) = _
  rw [if_pos h]
end Go.Proofs.YtcogdfgmmpfkkaaGreatDoor
