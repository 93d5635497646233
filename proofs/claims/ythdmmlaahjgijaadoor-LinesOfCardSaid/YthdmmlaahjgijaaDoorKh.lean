import Derived.Test.YthdmmlaahjgijaaDoorKf
import Derived.Test.YthdmmlaahjgijaaDoorO
import Derived.BigQuiet
import Derived.Deep.QuietTactic
import Derived.Outline
namespace Go.Proofs.YthdmmlaahjgijaaDoor
open Go.RowKit Go.Shelf
attribute [local go_sem] Oper.semAt_some
attribute [local go_sem] wide_fn wide_depth wide_round

/-! ## The law of points, one by one -/
def ptsN (L : List UInt8) : Nat := (placesFrom L 0).length
/-- What was gone over is a beginning of what should be. -/
def FitE (L : List UInt8) (pre : List (Fin L.length)) : Prop := pre.map Fin.val = (placesFrom L 0).take pre.length ∧ pre.length ≤ ptsN L
theorem fitE_of {L : List UInt8} {pre : List (Fin L.length)} {p : Nat} (h : Part L pre p) : FitE L pre := by
  unfold Part at h
  have hl := congrArg List.length h
  rw [List.length_append, List.length_map] at hl
  refine ⟨?_, by unfold ptsN; omega⟩
  have := congrArg (List.take pre.length) h
  rwa [List.take_left' (by simp)] at this
theorem fitE_next {L : List UInt8} {pre : List (Fin L.length)} {x : Fin L.length} (h : FitE L pre) (hx : (placesFrom L 0)[pre.length]? = some x.val) : FitE L (pre ++ [x]) := by
  obtain ⟨h1, _⟩ := h
  obtain ⟨hk, he⟩ := List.getElem?_eq_some_iff.1 hx
  refine ⟨?_, by rw [List.length_append, List.length_singleton]; exact hk⟩
  rw [List.map_append, List.map_cons, List.map_nil, h1, List.length_append, List.length_singleton, List.take_succ_eq_append_getElem hk, he]
theorem fitE_last {L : List UInt8} {pre : List (Fin L.length)} {x : Fin L.length} (h : FitE L (pre ++ [x])) : (placesFrom L 0)[pre.length]? = some x.val := by
  obtain ⟨h1, h2⟩ := h
  rw [List.length_append, List.length_singleton] at h1 h2
  have hg := congrArg (fun l => l[pre.length]?) h1
  simp at hg
  rw [← hg]
theorem one_lits (a b : Nat) (ha : a ≤ 4611686018427387904) (hb : b ≤ 4611686018427387904) : Tryd.prog.keyLits 2 37 [.int .i64 (a : Int), .int .i64 (b : Int)] = some [.int .i64 (a : Int), .int .i64 (b : Int)] := by
  have k1 : Tryd.prog.cellsOf 3 = 1 := by kernel_rfl
  have k2 : Tryd.prog.cellsOf 37 = 2 := by kernel_rfl
  have w1 : (Lit.int .i64 (a : Int)).wf = true := by simp [Lit.wf, IntKind.min, IntKind.max, IntKind.signed, IntKind.bits]; omega
  have w2 : (Lit.int .i64 (b : Int)).wf = true := by simp [Lit.wf, IntKind.min, IntKind.max, IntKind.signed, IntKind.bits]; omega
  have r2 : List.range 2 = [0, 1] := rfl
  simp [Program.keyLits, Tryd.underlying37, Tryd.underlying3, k1, k2, w1, w2]
theorem one_equal (a b a' b' : Nat) (ha : a ≤ 4611686018427387904) (hb : b ≤ 4611686018427387904) (ha' : a' ≤ 4611686018427387904) (hb' : b' ≤ 4611686018427387904) (w : World) :
    (Op.equalIn 10000 37 (.agg #[.int .i64 (a : Int), .int .i64 (b : Int)]) (.agg #[.int .i64 (a' : Int), .int .i64 (b' : Int)])).run Tryd.prog w = .ok (decide (a = a' ∧ b = b')) w := by
  obtain ⟨r, hr, hiff⟩ := run_equalIn_deep (P := Tryd.prog) 9998 2 37 (by kernel_rfl) w 2 2 (.agg #[.int .i64 (a : Int), .int .i64 (b : Int)]) (.agg #[.int .i64 (a' : Int), .int .i64 (b' : Int)]) _ _ (by kernel_rfl) (by kernel_rfl) (one_lits a b ha hb) (one_lits a' b' ha' hb')
  rw [hr]
  have : r = decide (a = a' ∧ b = b') := by
    cases r with
    | true =>
      have := hiff.1 rfl
      simp at this
      exact (decide_eq_true ⟨by omega, by omega⟩).symm
    | false =>
      refine (decide_eq_false (fun h => ?_)).symm
      have := hiff.2 (by rw [h.1, h.2])
      cases this
  rw [this]

/-- What the cells of the document's answer hold. -/
def CurOf (L : List UInt8) (cur : Array Value) : Prop := ∀ k p, (placesFrom L 0)[k]? = some p → cur[k * 2]? = some (.int .i64 (p : Int)) ∧ cur[k * 2 + 1]? = some (.int .i64 ((lookAt L p).point : Int))
/-- What lies while the points are gone over. -/
def UeM (w : World) (m : Int) (s : ByteArray) (C q : Nat) (v : Value) (cur : Array Value) (T k : Nat) (t : Int) (ds : List Nat) (n : Int) (W : World) : Prop :=
  Has W w.heap.size 3 #[.int .i64 m] ∧ Has W (w.heap.size + 1) 4 #[.bool false] ∧ Has W C 31 #[v] ∧ Has W (C + 1) 9 #[.string s] ∧
  Has W T 3 #[.int .i64 t] ∧ Has W k 3 #[.int .i64 n] ∧ (0 < ptsN s.data.toList → Has W q 37 cur) ∧ (∀ D ∈ ds, NoCalls W D) ∧ Below w.heap.size w W
theorem ueM_from {β : Type} (w : World) (m : Int) (s : ByteArray) (C q : Nat) (v : Value) (cur : Array Value) (T k : Nat) (t : Int) (ds : List Nat) (f : β → Int) (B : Nat) (hw : w.heap.size + 1 < C) (hC : C + 1 < B) (hq : q < C) (hT : T < B) (hk : k < B) (hds : ∀ D ∈ ds, D < B) : OwnFrom B (fun b W => UeM w m s C q v cur T k t ds (f b) W) :=
  OwnFrom.and (has_from (by omega) _ (fun _ => #[.int .i64 m])) (OwnFrom.and (has_from (by omega) _ (fun _ => #[.bool false])) (OwnFrom.and (has_from (by omega) _ (fun _ => #[v])) (OwnFrom.and (has_from hC _ (fun _ => #[.string s])) (OwnFrom.and (has_from hT _ (fun _ => #[.int .i64 t])) (OwnFrom.and (has_from hk _ (fun b => #[.int .i64 (f b)])) (OwnFrom.and (fun b X Y row hs hg hr h0 => has_from (β := Unit) (by omega) _ (fun _ => cur) () X Y row (hs h0) hg hr) (OwnFrom.and (fun s X Y row hs hg hr D hD => NoCalls.from (hds D hD) s X Y row (hs D hD) hg hr) (ownFrom_below (Nat.le_refl _) (by omega)))))))))
/-- The counter is set. -/
theorem UeM.count {w W : World} {m : Int} {s : ByteArray} {C q : Nat} {v : Value} {cur : Array Value} {T k : Nat} {t : Int} {ds : List Nat} {n : Int} (h : UeM w m s C q v cur T k t ds n W) (hw : w.heap.size + 1 < C) (hk : C + 1 < k) (hq : q < C) (hTk : T ≠ k) (n' : Int) :
    UeM w m s C q v cur T k t ds n' (W.setCell ⟨k, 0, none⟩ (.int .i64 n')) := by
  obtain ⟨h0, h1, h2, h3, h4, h5, h6, h7, h8⟩ := h
  exact ⟨h0.other (by omega) _, h1.other (by omega) _, h2.other (by omega) _, h3.other (by omega) _, h4.other hTk _, h5.put 0 _, fun h => (h6 h).other (by omega) _, fun D hD => (h7 D hD).set h5 _, h8.setCell (by simp; omega) _⟩
def UeI (w : World) (m : Int) (s : ByteArray) (C q : Nat) (v : Value) (cur : Array Value) (T k : Nat) (t : Int) (ds : List Nat) (pre : List (Fin s.data.toList.length)) (W : World) : Prop :=
  (FitE s.data.toList pre ∧ (t = 0 → pre.length = 0 ∨ (pre.length : Int) < m)) ∧ UeM w m s C q v cur T k t ds pre.length W
def UeX (w : World) (m : Int) (s : ByteArray) (C q : Nat) (v : Value) (cur : Array Value) (T k : Nat) (t : Int) (ds : List Nat) (c : Code) (pre : List (Fin s.data.toList.length)) (W : World) : Prop :=
  (c = .ret ∧ ¬ FitE s.data.toList pre) ∨ (c = .exit 2 ∧ t = 0 ∧ FitE s.data.toList pre ∧ m ≤ (pre.length : Int) ∧ (pre.length = 1 ∨ (pre.length : Int) - 1 < m) ∧ 0 < pre.length ∧ UeM w m s C q v cur T k t ds pre.length W)
def ueCount (m : Int) (N : Nat) (t : Int) : Int := if t = 0 then min (N : Int) (max 1 m) else N
theorem ueI_from (w : World) (m : Int) (s : ByteArray) (C q : Nat) (v : Value) (cur : Array Value) (T k : Nat) (t : Int) (ds : List Nat) (B : Nat) (hw : w.heap.size + 1 < C) (hC : C + 1 < B) (hq : q < C) (hT : T < B) (hk : k < B) (hds : ∀ D ∈ ds, D < B) : OwnFrom B (UeI w m s C q v cur T k t ds) := fun b W W' row hs hg hr =>
  ⟨hs.1, ueM_from w m s C q v cur T k t ds (fun b : List (Fin s.data.toList.length) => (b.length : Int)) B hw hC hq hT hk hds b W W' row hs.2 hg hr⟩
theorem ueX_from (w : World) (m : Int) (s : ByteArray) (C q : Nat) (v : Value) (cur : Array Value) (T k : Nat) (t : Int) (ds : List Nat) (B : Nat) (hw : w.heap.size + 1 < C) (hC : C + 1 < B) (hq : q < C) (hT : T < B) (hk : k < B) (hds : ∀ D ∈ ds, D < B) (c : Code) : OwnFrom B (UeX w m s C q v cur T k t ds c) := fun b W W' row hs hg hr => by
  rcases hs with hs | ⟨h1, h2, h3, h4, h5, h6, h7⟩
  · exact .inl hs
  · exact .inr ⟨h1, h2, h3, h4, h5, h6, ueM_from w m s C q v cur T k t ds (fun b : List (Fin s.data.toList.length) => (b.length : Int)) B hw hC hq hT hk hds b W W' row h7 hg hr⟩
section
variable {w W : World} {m : Int} {s : ByteArray} {C q : Nat} {v : Value} {cur : Array Value} {T k : Nat} {t : Int} {ds : List Nat}
theorem ue_all {xs : List (Fin s.data.toList.length)} (h : Part s.data.toList xs s.size) (hI : UeI w m s C q v cur T k t ds xs W) : UeM w m s C q v cur T k t ds (ueCount m (ptsN s.data.toList) t) W := by
  obtain ⟨⟨_, hc⟩, hM⟩ := hI
  unfold Part at h
  rw [places_end (by simp only [Array.length_toList]; exact Nat.le_refl _), List.append_nil] at h
  have hl : xs.length = ptsN s.data.toList := by unfold ptsN; rw [← h, List.length_map]
  have : (xs.length : Int) = ueCount m (ptsN s.data.toList) t := by
    unfold ueCount
    split
    · rename_i ht
      have := hc ht
      by_cases h0 : xs.length = 0
      · omega
      · omega
    · omega
  rw [← this]; exact hM
theorem ue_left {c : Code} {pre : List (Fin s.data.toList.length)} (h : ∃ p, p ≤ s.size ∧ Part s.data.toList pre p) (hI : UeX w m s C q v cur T k t ds c pre W) : c = .exit 2 ∧ UeM w m s C q v cur T k t ds (ueCount m (ptsN s.data.toList) t) W := by
  obtain ⟨p, _, hp⟩ := h
  rcases hI with ⟨_, hn⟩ | ⟨rfl, rfl, hf, h1, h2, h3, hM⟩
  · exact absurd (fitE_of hp) hn
  · refine ⟨rfl, ?_⟩
    have hle := hf.2
    have : (pre.length : Int) = ueCount m (ptsN s.data.toList) 0 := by unfold ueCount; simp; omega
    rw [← this]; exact hM
end
end Go.Proofs.YthdmmlaahjgijaaDoor
