import Derived.Test.YtdkmajmmhngdpaaDoorFdEa
namespace Go.Proofs.YtdkmajmmhngdpaaDoor
open Go.RowKit Go.Shelf

/-! ## What stands while the lines that count are gone over -/
def cls (ls : List (List UInt8)) : List Nat := (List.range ls.length).filter (cnt ls)
def FitN (ls : List (List UInt8)) (pre : List Nat) : Prop := pre = (cls ls).take pre.length ∧ pre.length ≤ (cls ls).length
theorem fitN_next {ls : List (List UInt8)} {pre : List Nat} {x : Nat} (h : FitN ls pre) (hx : (cls ls)[pre.length]? = some x) : FitN ls (pre ++ [x]) := by
  obtain ⟨h1, _⟩ := h
  obtain ⟨hk, he⟩ := List.getElem?_eq_some_iff.1 hx
  refine ⟨?_, by rw [List.length_append, List.length_singleton]; exact hk⟩
  rw [List.length_append, List.length_singleton, List.take_succ_eq_append_getElem hk, he, ← h1]
theorem fitN_last {ls : List (List UInt8)} {pre : List Nat} {x : Nat} (h : FitN ls (pre ++ [x])) : (cls ls)[pre.length]? = some x := by
  obtain ⟨h1, h2⟩ := h
  rw [List.length_append, List.length_singleton] at h1 h2
  have hg := congrArg (fun l => l[pre.length]?) h1
  simp at hg
  rw [← hg]
theorem fitN_all (ls : List (List UInt8)) : FitN ls (cls ls) := ⟨by rw [List.take_length], Nat.le_refl _⟩
theorem fitN_part (ls : List (List UInt8)) (k : Nat) (hk : k < ls.length) : FitN ls ((List.range (k + 1)).filter (cnt ls)) := by
  have he : cls ls = (List.range (k + 1)).filter (cnt ls) ++ ((List.range' (k + 1) (ls.length - (k + 1))).filter (cnt ls)) := by
    unfold cls
    rw [← List.filter_append]
    congr 1
    have h := List.range'_append_1 (s := 0) (m := k + 1) (n := ls.length - (k + 1))
    rw [Nat.zero_add, show k + 1 + (ls.length - (k + 1)) = ls.length by omega] at h
    rw [List.range_eq_range', List.range_eq_range']
    exact h.symm
  unfold FitN
  rw [he, List.take_left' rfl, List.length_append]
  exact ⟨rfl, by omega⟩
theorem cls_lt {ls : List (List UInt8)} {j p : Nat} (h : (cls ls)[j]? = some p) : p < ls.length := by
  have := List.mem_of_getElem? h
  unfold cls at this
  simpa using (List.mem_filter.1 this).1
structure FeM (w5 : World) (T k : Nat) (t : Int) (ds : List Nat) (n : Int) (W : World) : Prop where
  bT : Has W T 3 #[.int .i64 t]
  bk : Has W k 3 #[.int .i64 n]
  ds : ∀ D ∈ ds, NoCalls W D
  be : Below w5.heap.size w5 W
theorem row_at {X Y : World} {row : Option Nat} {D B : Nat} (hs : NoCalls X D) (hD : D < B) (hg : X.grownBy Y row) (hr : ∀ r, row = some r → B ≤ r ∧ ∃ o : Obj, X.heap[r]? = some o ∧ o.isCells = false) : NoCalls Y D :=
  (hg.block D hs.lt (fun e => by have := (hr D e.symm).1; omega)).trans hs
theorem FeM.from {w5 X Y : World} {T k : Nat} {t : Int} {ds : List Nat} {n : Int} {row : Option Nat} {B : Nat} (h : FeM w5 T k t ds n X) (hds : ∀ D ∈ ds, D < B) (hB : w5.heap.size ≤ B) (hg : X.grownBy Y row) (hr : ∀ r, row = some r → B ≤ r ∧ ∃ o : Obj, X.heap[r]? = some o ∧ o.isCells = false) : FeM w5 T k t ds n Y :=
  ⟨h.bT.row hg hr, h.bk.row hg hr, fun D hD => row_at (h.ds D hD) (hds D hD) hg hr, h.be.grown hg h.be.size (fun g e => by have := (hr g e).1; omega)⟩
theorem FeM.count {w5 W : World} {T k : Nat} {t : Int} {ds : List Nat} {n : Int} (h : FeM w5 T k t ds n W) (hk : w5.heap.size ≤ k) (hTk : T ≠ k) (n' : Int) : FeM w5 T k t ds n' (W.setCell ⟨k, 0, none⟩ (.int .i64 n')) :=
  ⟨h.bT.other hTk _, h.bk.put 0 _, fun D hD => (h.ds D hD).set h.bk _, h.be.setCell (p := ⟨k, 0, none⟩) hk _⟩
theorem FeM.below {w5 W V : World} {T k : Nat} {t : Int} {ds : List Nat} {n : Int} (h : FeM w5 T k t ds n W) (hb : Below W.heap.size W V) : FeM w5 T k t ds n V :=
  ⟨h.bT.below hb h.bT.lt, h.bk.below hb h.bk.lt, fun D hD => (h.ds D hD).below hb (h.ds D hD).lt, h.be.trans (hb.mono h.be.size)⟩
def FeI (ls : List (List UInt8)) (w5 : World) (m : Int) (T k : Nat) (t : Int) (ds : List Nat) (pre : List Nat) (W : World) : Prop :=
  (FitN ls pre ∧ (t = 0 → pre.length = 0 ∨ (pre.length : Int) < m)) ∧ FeM w5 T k t ds pre.length W
def FeX (ls : List (List UInt8)) (w5 : World) (m : Int) (T k : Nat) (t : Int) (ds : List Nat) (c : Code) (pre : List Nat) (W : World) : Prop :=
  (c = .ret ∧ ¬ FitN ls pre) ∨ (c = .exit 4 ∧ t = 0 ∧ FitN ls pre ∧ m ≤ (pre.length : Int) ∧ (pre.length = 1 ∨ (pre.length : Int) - 1 < m) ∧ 0 < pre.length ∧ FeM w5 T k t ds pre.length W)
def feCount (m : Int) (N : Nat) (t : Int) : Int := if t = 0 then min (N : Int) (max 1 m) else N
theorem feI_from (ls : List (List UInt8)) (w5 : World) (m : Int) (T k : Nat) (t : Int) (ds : List Nat) (B : Nat) (hds : ∀ D ∈ ds, D < B) (hB : w5.heap.size ≤ B) : OwnFrom B (FeI ls w5 m T k t ds) := fun _ _ _ _ hs hg hr => ⟨hs.1, hs.2.from hds hB hg hr⟩
theorem feX_from (ls : List (List UInt8)) (w5 : World) (m : Int) (T k : Nat) (t : Int) (ds : List Nat) (B : Nat) (hds : ∀ D ∈ ds, D < B) (hB : w5.heap.size ≤ B) (c : Code) : OwnFrom B (FeX ls w5 m T k t ds c) := fun _ _ _ _ hs hg hr => by
  rcases hs with hs | ⟨h1, h2, h3, h4, h5, h6, h7⟩
  · exact .inl hs
  · exact .inr ⟨h1, h2, h3, h4, h5, h6, h7.from hds hB hg hr⟩
theorem fe_all {ls : List (List UInt8)} {w5 W : World} {m : Int} {T k : Nat} {t : Int} {ds : List Nat} {xs : List Nat} (h : xs = (List.range ls.length).filter (cnt ls)) (hI : FeI ls w5 m T k t ds xs W) : FeM w5 T k t ds (feCount m (cls ls).length t) W := by
  obtain ⟨⟨_, hc⟩, hM⟩ := hI
  have hl : xs.length = (cls ls).length := by rw [h]; rfl
  have : (xs.length : Int) = feCount m (cls ls).length t := by
    unfold feCount
    split
    · rename_i ht
      have := hc ht
      by_cases h0 : xs.length = 0
      · omega
      · omega
    · omega
  rw [← this]; exact hM
theorem fe_left {ls : List (List UInt8)} {w5 W : World} {m : Int} {T k : Nat} {t : Int} {ds : List Nat} {c : Code} {pre : List Nat} (h : ∃ j, j < ls.length ∧ pre = (List.range (j + 1)).filter (cnt ls)) (hI : FeX ls w5 m T k t ds c pre W) : c = .exit 4 ∧ FeM w5 T k t ds (feCount m (cls ls).length t) W := by
  obtain ⟨j, hj, rfl⟩ := h
  rcases hI with ⟨_, hn⟩ | ⟨rfl, rfl, hf, h1, h2, h3, hM⟩
  · exact absurd (fitN_part ls j hj) hn
  · refine ⟨rfl, ?_⟩
    have hle := hf.2
    have : ((((List.range (j + 1)).filter (cnt ls)).length : Nat) : Int) = feCount m (cls ls).length 0 := by unfold feCount; simp; omega
    rw [← this]; exact hM
end Go.Proofs.YtdkmajmmhngdpaaDoor
