import Derived.Test.YtlbiniibkbhghaaGreatDoorPk11
import Derived.Test.YtlbiniibkbhghaaGreatDoorPk12
import Derived.Lib.MinMax
namespace Go.Proofs.YtlbiniibkbhghaaGreatDoor
open Go.RowKit Go.Shelf
attribute [local go_sem] Oper.semAt_some
attribute [local go_sem] wide_fn wide_depth wide_round

/-! ## What stands while an event's lines are gone over, twice -/
structure ElM (w5 : World) (T k : Nat) (t : Int) (ds : List Nat) (n : Int) (W : World) : Prop where
  bT : Has W T 3 #[.int .i64 t]
  bk : Has W k 3 #[.int .i64 n]
  ds : ∀ D ∈ ds, NoCalls W D
  be : Below w5.heap.size w5 W
theorem rowE_at {X Y : World} {row : Option Nat} {D B : Nat} (hs : NoCalls X D) (hD : D < B) (hg : X.grownBy Y row) (hr : ∀ r, row = some r → B ≤ r ∧ ∃ o : Obj, X.heap[r]? = some o ∧ o.isCells = false) : NoCalls Y D :=
  (hg.block D hs.lt (fun e => by have := (hr D e.symm).1; omega)).trans hs
theorem ElM.from {w5 X Y : World} {T k : Nat} {t : Int} {ds : List Nat} {n : Int} {row : Option Nat} {B : Nat} (h : ElM w5 T k t ds n X) (hds : ∀ D ∈ ds, D < B) (hB : w5.heap.size ≤ B) (hg : X.grownBy Y row) (hr : ∀ r, row = some r → B ≤ r ∧ ∃ o : Obj, X.heap[r]? = some o ∧ o.isCells = false) : ElM w5 T k t ds n Y :=
  ⟨h.bT.row hg hr, h.bk.row hg hr, fun D hD => rowE_at (h.ds D hD) (hds D hD) hg hr, h.be.grown hg h.be.size (fun g e => by have := (hr g e).1; omega)⟩
theorem ElM.count {w5 W : World} {T k : Nat} {t : Int} {ds : List Nat} {n : Int} (h : ElM w5 T k t ds n W) (hk : w5.heap.size ≤ k) (hTk : T ≠ k) (n' : Int) : ElM w5 T k t ds n' (W.setCell ⟨k, 0, none⟩ (.int .i64 n')) :=
  ⟨h.bT.other hTk _, h.bk.put 0 _, fun D hD => (h.ds D hD).set h.bk _, h.be.setCell (p := ⟨k, 0, none⟩) hk _⟩
def FitR (N : Nat) (pre : List Nat) : Prop := pre = List.range pre.length ∧ pre.length ≤ N
theorem fitR_next {N : Nat} {pre : List Nat} (h : FitR N pre) (hN : pre.length < N) : FitR N (pre ++ [pre.length]) := by
  obtain ⟨h1, _⟩ := h
  refine ⟨?_, by simp; omega⟩
  rw [List.length_append, List.length_singleton, List.range_succ, ← h1]
theorem fitR_last {N : Nat} {pre : List Nat} {x : Nat} (h : FitR N (pre ++ [x])) : x = pre.length ∧ pre.length < N := by
  obtain ⟨h1, h2⟩ := h
  rw [List.length_append, List.length_singleton] at h1 h2
  have hg := congrArg (fun l => l[pre.length]?) h1
  simp at hg
  exact ⟨hg, h2⟩
theorem fitR_part (N j : Nat) (h : j ≤ N) : FitR N (List.range j) := ⟨by rw [List.length_range], by rw [List.length_range]; exact h⟩
def ElI (N : Nat) (w5 : World) (m : Int) (T k : Nat) (t : Int) (ds : List Nat) (pre : List Nat) (W : World) : Prop :=
  (FitR N pre ∧ (t = 0 → pre.length = 0 ∨ (pre.length : Int) < m)) ∧ ElM w5 T k t ds pre.length W
def ElX (N id : Nat) (w5 : World) (m : Int) (T k : Nat) (t : Int) (ds : List Nat) (c : Code) (pre : List Nat) (W : World) : Prop :=
  (c = .ret ∧ ¬ FitR N pre) ∨ (c = .exit id ∧ t = 0 ∧ FitR N pre ∧ m ≤ (pre.length : Int) ∧ (pre.length = 1 ∨ (pre.length : Int) - 1 < m) ∧ 0 < pre.length ∧ ElM w5 T k t ds pre.length W)
def elCount (m : Int) (N : Nat) (t : Int) : Int := if t = 0 then min (N : Int) (max 1 m) else N
theorem elI_from (N : Nat) (w5 : World) (m : Int) (T k : Nat) (t : Int) (ds : List Nat) (B : Nat) (hds : ∀ D ∈ ds, D < B) (hB : w5.heap.size ≤ B) : OwnFrom B (ElI N w5 m T k t ds) := fun _ _ _ _ hs hg hr => ⟨hs.1, hs.2.from hds hB hg hr⟩
theorem elX_from (N id : Nat) (w5 : World) (m : Int) (T k : Nat) (t : Int) (ds : List Nat) (B : Nat) (hds : ∀ D ∈ ds, D < B) (hB : w5.heap.size ≤ B) (c : Code) : OwnFrom B (ElX N id w5 m T k t ds c) := fun _ _ _ _ hs hg hr => by
  rcases hs with hs | ⟨h1, h2, h3, h4, h5, h6, h7⟩
  · exact .inl hs
  · exact .inr ⟨h1, h2, h3, h4, h5, h6, h7.from hds hB hg hr⟩
theorem el_all {N : Nat} {w5 W : World} {m : Int} {T k : Nat} {t : Int} {ds : List Nat} {xs : List Nat} (h : xs = List.range N) (hI : ElI N w5 m T k t ds xs W) : ElM w5 T k t ds (elCount m N t) W := by
  obtain ⟨⟨_, hc⟩, hM⟩ := hI
  have hl : xs.length = N := by rw [h, List.length_range]
  have : (xs.length : Int) = elCount m N t := by
    unfold elCount
    split
    · rename_i ht
      have := hc ht
      by_cases h0 : xs.length = 0
      · omega
      · omega
    · omega
  rw [← this]; exact hM
theorem el_left {N id : Nat} {w5 W : World} {m : Int} {T k : Nat} {t : Int} {ds : List Nat} {c : Code} {pre : List Nat} (h : ∃ j, j < N ∧ pre = List.range (j + 1)) (hI : ElX N id w5 m T k t ds c pre W) : c = .exit id ∧ ElM w5 T k t ds (elCount m N t) W := by
  obtain ⟨j, hj, rfl⟩ := h
  rcases hI with ⟨_, hn⟩ | ⟨rfl, rfl, hf, h1, h2, h3, hM⟩
  · exact absurd (fitR_part N (j + 1) (by omega)) hn
  · refine ⟨rfl, ?_⟩
    have hle := hf.2
    have : (((List.range (j + 1)).length : Nat) : Int) = elCount m N 0 := by unfold elCount; simp only [List.length_range] at *; simp; omega
    rw [← this]; exact hM
/-- An iterator over lines: what an event's Lines tells, whether it may be or not. -/
def encW (ls : List (List UInt8)) (k : Nat) : Array Value := #[.int .i64 (k : Int), .string ⟨(ls.getD k []).toArray⟩]
def ItOk (w9 : World) (bN bF : Nat) (ls : List (List UInt8)) : Prop := ∀ (W : World) (S : Nat → Prop), Below w9.heap.size w9 W → (∀ k, S k → w9.heap.size ≤ k ∧ k < W.heap.size) →
  SeqOwn 2 Tryz.prog 34 #[.pointer (some ⟨bN, 0, none⟩), .pointer (some ⟨bF, 0, none⟩)] (encW ls) (KeepC W.heap.size S) (fun ys => ys = List.range ls.length) (fun pre => ∃ j, j < ls.length ∧ pre = List.range (j + 1)) ls.length W
theorem it_right {e : Ev} {w9 : World} {bN bF k : Nat} (hl : e.1.length + e.2.1.length + e.2.2.length ≤ 65536) (h : EnvE w9 bN bF k e) : ItOk w9 bN bF (linesE e) := by
  intro W S hb hS
  have h1 := h.no.lt
  have h2 := h.fr.lt
  have h3 := h.at'.lt
  have h4 := h.nm.lt
  have h5 : 3 < w9.heap.size := by
    obtain ⟨m, hm⟩ := h.mx
    exact hm.lt
  have hlen : (linesE e).length = (fieldsE e).length + 1 := by unfold linesE; simp
  rw [hlen]
  exact linesE_stops e bN bF k hl S W (fun k hk => (hS k hk).2) ⟨fun hk => by have := (hS _ hk).1; omega, fun hk => by have := (hS _ hk).1; omega, fun hk => by have := (hS _ hk).1; omega, fun hk => by have := (hS _ hk).1; omega, fun hk => by have := (hS _ hk).1; omega⟩ (h.below hb)
set_option maxRecDepth 100000 in
set_option maxHeartbeats 1000000 in
theorem it_wrong {w9 : World} {bN bF : Nat} (h : Has w9 bN 27 #[.int .i64 2]) : ItOk w9 bN bF [] := by
  intro W S hb hS l J Jx W2 hW2 hJ hJx hY h0
  have hN := (h.below hb h.lt).below hW2 (by have := h.lt; have := hb.size; omega)
  have cN := (hN.alloc (.cells #[.func (.yield l) #[] #[]] 67)).cell 0
  have hj4 := Lib.hid (hJ.alloc (.cells #[.func (.yield l) #[] #[]] 67) h0)
  clear hY hJ hJx h0 hW2
  refine callsIn_of_wp_marks Tryz.func34 rfl trivial ?_ rfl
  refine wpIn_wide.2 ?_
  simp only [Tryz.ntmps34, List.size_toArray, List.length_cons, List.length_nil, Nat.reduceAdd, Nat.reduceSub, Array.replicate_succ, Array.replicate_zero, List.push_toArray, List.append_toArray, List.nil_append, List.cons_append]
  go_wp2_with fail
  try go_step3
  go_wp2
  exact ⟨_, results_none rfl _ _ _, ⟨_, rfl⟩, .inl ⟨[], rfl, hj4.out⟩⟩
set_option maxRecDepth 100000 in
set_option maxHeartbeats 2000000 in
theorem linesE_none (e : Ev) (w : World) (hr : rightE e = false) (hl : ShortE e) (hT : EvT w) : Calls Tryz.prog 17 #[evV e] w fun r w' => ∃ bN bF, r = .returned (.func (.func 34) #[] #[.pointer (some ⟨bN, 0, none⟩), .pointer (some ⟨bF, 0, none⟩)]) ∧ Has w' bN 27 #[.int .i64 2] ∧ Below w.heap.size w w' := by
  have hb : Below w.heap.size w (w.alloc (.cells (evCells e) 23)) := (Below.refl _ _).alloc (Nat.le_refl _) _
  have h := Lib.hid ((faceFr_any e _ hl (hT.below hb)).mono (R' := fun r w' => r = .returned (.tuple #[.pointer none, .int .i64 2]) ∧ Below (w.alloc (.cells (evCells e) 23)).heap.size (w.alloc (.cells (evCells e) 23)) w') (fun r w' h => by
    rcases h.1 with ⟨h1, _⟩ | h1
    · rw [hr] at h1; cases h1
    · exact ⟨h1.2, h.2⟩))
  have hb' := Lib.hid hb
  have hmf : ∀ (fn : Fn) (first cap : Array Value) (w : World), (Instr.makeFunc fn first cap).run Tryz.prog w = .ok (.func fn first cap) w := fun _ _ _ _ => rfl
  clear hT hb hr
  unfold evV evCells at *
  go_enter Tryz.func17, Tryz.ntmps17
  go_wp2_with fail
  with_reducible refine Calls.mono h.out ?_
  rintro r w2 ⟨rfl, hb2⟩
  have hb2' := Lib.hid hb2
  clear hb2
  go_wp2
  go_ret
  have hbN := Has.new (w2.alloc (.cells #[.pointer none] 59)) 27 #[.int .i64 2]
  have hb24 : Below w2.heap.size w2 ((w2.alloc (.cells #[.pointer none] 59)).alloc (.cells #[.int .i64 2] 27)) := ((Below.refl _ _).alloc (Nat.le_refl _) _).alloc (by simp) _
  have hs2 := hb2'.out.size
  rw [World.size_alloc] at hbN
  simp only [World.size_alloc] at hs2
  exact ⟨w2.heap.size + 1, w2.heap.size, rfl, hbN, (hb'.out.trans (hb2'.out.mono (by simp))).trans (hb24.mono (by omega))⟩
end Go.Proofs.YtlbiniibkbhghaaGreatDoor
